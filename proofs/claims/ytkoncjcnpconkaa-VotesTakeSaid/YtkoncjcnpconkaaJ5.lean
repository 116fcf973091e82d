/- J5: layer 13: contracts of the document's All, Long. -/
import Derived.Test.YtkoncjcnpconkaaJ4
namespace Go.V
open Go.RowKit
theorem wrotesR_succ (l : List Vt) (v n : Nat) : wrotesR l v (n + 1) = wrotesR l v n ++ (wroteF l v n).toList := by
  unfold wrotesR
  rw [List.range_succ, List.flatMap_append, List.flatMap_singleton]
theorem wrotesF_succ (l : List Vt) (n : Nat) : wrotesF l (n + 1) = wrotesF l n ++ wrotesR l n 41 := by
  unfold wrotesF
  rw [List.range_succ, List.flatMap_append, List.flatMap_singleton]
theorem own_shape13 {w : World} {base s : Nat} {e : TypeId} {v : Value} {n : Nat} {xs : List Value} (h : w.ownsRow base e s v n xs) : ∃ A c, v = .slice A n c := by
  rcases h.2 with ⟨rfl, rfl⟩ | ⟨g, cap, cur, rfl, _⟩
  · exact ⟨_, _, rfl⟩
  · exact ⟨_, _, rfl⟩
theorem opt_len {α : Type} (o : Option α) : o.toList.length ≤ 1 := by cases o <;> simp
theorem len_wrotesR (l : List Vt) (v : Nat) : ∀ n, (wrotesR l v n).length ≤ n
  | 0 => by simp [wrotesR]
  | n + 1 => by rw [wrotesR_succ, List.length_append]; have := len_wrotesR l v n; have := opt_len (wroteF l v n); omega
theorem len_wrotesF (l : List Vt) : ∀ n, (wrotesF l n).length ≤ 41 * n
  | 0 => by simp [wrotesF]
  | n + 1 => by rw [wrotesF_succ, List.length_append]; have := len_wrotesF l n; have := len_wrotesR l n 41; omega
def preF (l : List Vt) : List Vt := if 0 ≤ (regF l).1 then [regV (regF l).1 (regF l).2] else []
theorem len_preF (l : List Vt) : (preF l).length ≤ 1 := by unfold preF; split <;> simp
theorem allF_pre (l : List Vt) : allF l = (preF l ++ wrotesF l 61) ++ (accF l).toList := rfl
theorem longVs_t1 {l : List Vt} (h : 40 < l.length) : longVs l = true := by unfold longVs; rw [decide_eq_true h]; rfl
theorem longVs_t2 {l : List Vt} {m : Vt} (hm : m ∈ l) (h : longV m = true) : longVs l = true := by
  unfold longVs
  rw [List.any_eq_true.2 ⟨m, hm, h⟩, Bool.or_true]
theorem longVs_f {l : List Vt} (h : ¬ 40 < l.length) (h2 : ∀ m ∈ l, longV m = false) : longVs l = false := by
  unfold longVs
  rw [decide_eq_false h, Bool.false_or, List.any_eq_false]
  intro m hm
  rw [h2 m hm]
  simp
theorem longV_t {m : Vt} (h : 500 < m.b.length ∨ 20 < m.ps.length ∨ ∃ t ∈ m.ps, 300 < t.length) : longV m = true := by
  unfold longV; rw [decide_eq_true_iff]; exact h
theorem longV_f {m : Vt} (h1 : ¬ 500 < m.b.length) (h2 : ¬ 20 < m.ps.length) (h3 : ∀ t ∈ m.ps, t.length ≤ 300) : longV m = false := by
  unfold longV
  rw [decide_eq_false_iff_not]
  rintro (h | h | ⟨t, ht, h⟩)
  · exact h1 h
  · exact h2 h
  · have := h3 t ht; omega
end Go.V
namespace Go.Proofs.Ytkoncjcnpconkaa
open Go.RowKit Go.V
theorem bldR13 (a b : Int) : ∀ W : World, (Instr.build 27 #[(0, .int .i64 1), (1, .int .i64 a), (2, .int .i64 b)]).run Try.prog W = .ok (.agg ((regV a b).l (.slice none 0 0) (.slice none 0 0)).toArray) W := fun _ => by kernel_rfl
/-- a list of votes under construction: an own row behind base, that holds L; its votes' bytes lie in G -/
def VRow (w wr : World) (G : Nat → Prop) (ov : Value) (L : List Vt) : Prop :=
  ∃ xs, wr.ownsRow w.heap.size 27 38 ov L.length xs ∧ WdX wr G vtD L xs ∧ Below w.heap.size w wr
theorem VRow.nil (w : World) {w1 : World} (G : Nat → Prop) (h : Below w.heap.size w w1) : VRow w w1 G (.slice none 0 0) [] := ⟨[], World.ownsRow_nil _ _ _ _, rfl, h⟩
theorem VRow.below {w w1 w2 : World} {G : Nat → Prop} {ov : Value} {L : List Vt} (h : VRow w w1 G ov L) (hB : Below w1.heap.size w1 w2) : VRow w w2 G ov L := by
  obtain ⟨xs, h1, h2, h3⟩ := h
  exact ⟨xs, own_bel h1 hB, h2.keep (fun b hb hf => ⟨hf, hB.block b hb⟩), h3.trans (hB.mono h3.size)⟩
theorem VRow.push {w w1 w2 : World} {G : Nat → Prop} {ov v4 : Value} {L : List Vt} {m : Vt} {xs us : List Value} (hro : w1.ownsRow w.heap.size 27 38 ov L.length xs) (hx : WdX w1 G vtD L xs) (hB : Below w.heap.size w w1) (hG : ∀ b, G b → b < w.heap.size)
    (hm : WdEl w1 G vtD m us) (ho : w2.ownsRow w.heap.size 27 38 v4 (L.length + 1) (xs ++ us)) (hg : w1.grownBy w2 ov.ownBlock) : VRow w w2 G v4 (L ++ [m]) := by
  have hk : ∀ b, b < w1.heap.size → G b → G b ∧ w2.heap[b]? = w1.heap[b]? := fun b hb hf => ⟨hf, hg.block b hb (fun e => by have := (hro.lt b e.symm).1; have := hG b hf; omega)⟩
  refine ⟨xs ++ us, by rw [List.length_append]; exact ho, WdX.snoc (hm.keep hk) (hx.keep hk), hB.grown hg hB.size (fun k hk => (hro.lt k hk).1)⟩
theorem VRow.rd {w w1 : World} {G F : Nat → Prop} {ov : Value} {L : List Vt} (h : VRow w w1 G ov L) (hG : ∀ b, G b → F b) (hF : ∀ b, w.heap.size ≤ b → F b) : Rd w1 F ov (wds vtD L) := by
  obtain ⟨xs, h1, h2, h3⟩ := h
  exact wds_own h1 h2 hG (fun b hb => hF b (h1.lt b hb).1)
set_option maxRecDepth 100000 in
set_option maxHeartbeats 8000000 in
theorem all13_any (l : List Vt) (vl : Value) (F : Nat → Prop) (w : World) (hl : Rd w F vl (wds vtD l)) :
    Calls Try.prog 21 #[vl] w fun e w' => ∃ vo, e = .returned vo ∧ Rd w' (fun b => F b ∨ w.heap.size ≤ b) vo (wds vtD (allF l)) ∧ Below w.heap.size w w' := by
  obtain ⟨A, c, rfl, hc1, hc2⟩ := wds_shape hl
  have hl0 := hl.weak (F' := fun b => F b ∧ b < w.heap.size) (fun b hb hf => ⟨hf, hb⟩)
  obtain ⟨G, hG⟩ : ∃ G : Nat → Prop, G = fun b => F b ∧ b < w.heap.size := ⟨_, rfl⟩
  rw [← hG] at hl0
  have hGF : ∀ b, G b → F b ∧ b < w.heap.size := fun b h => by rw [hG] at h; exact h
  clear hG
  obtain ⟨Al, hAl⟩ : ∃ x, x = allF l := ⟨_, rfl⟩
  rw [← hAl]
  rw [allF_pre] at hAl
  have HAl := hid hAl
  clear hAl
  have hrg := reg13_any l (.slice A l.length c) G w hl0
  have hpr : preF l = if 0 ≤ (regF l).1 then [regV (regF l).1 (regF l).2] else [] := rfl
  obtain ⟨a, ha⟩ : ∃ a, a = (regF l).1 := ⟨_, rfl⟩
  obtain ⟨b, hb⟩ : ∃ b, b = (regF l).2 := ⟨_, rfl⟩
  obtain ⟨P, hP⟩ : ∃ P, P = preF l := ⟨_, rfl⟩
  have hPl : P.length ≤ 1 := by rw [hP]; exact len_preF l
  rw [← ha, ← hb] at hrg hpr
  rw [← hP] at hpr HAl
  have Hpr := hid hpr
  have Hrg := hid hrg
  clear ha hb hP hpr hrg
  go_enter Try.func21, Try.ntmps21
  go_wp2_with (fail)
  refine Hrg.out.mono ?_
  rintro e w1 ⟨rfl, hB1⟩
  go_upto_if 18 with (fail)
  go_cut [3] (fun ov wx => VRow w wx G ov P)
  case first =>
    by_cases h0 : 0 ≤ a
    · have hp : P = [regV a b] := by rw [Hpr.out, if_pos h0]
      subst hp
      have hnil := World.ownsRow_nil w1 w.heap.size 27 38
      go_wp2_with (first | refine wp_bld 27 [(0, .const (.int .i64 1)), (1, .tmp 20), (2, .tmp 21)] rfl rfl [(0, .int .i64 1), (1, .int .i64 a), (2, .int .i64 b)] rfl (bldR13 a b) ?_ | (refine wp_pushW (.tmp 19) (.tmp 22) 23 slV13 rfl rfl rfl rfl rfl (us := (regV a b).l (.slice none 0 0) (.slice none 0 0)) rfl (len_vt _ _ _) one_vt (by simp [Act.put]) rfl hnil (by simp [maxLen]) (by omega) hB1.size ?_; intro v4 w4 ho4 hG4 hd4; refine wp_stop ?_))
      have hv := VRow.push (L := []) (m := regV a b) hnil rfl hB1 (fun b h => (hGF b h).2) (vt_mk (Rd.nil _ _) (Rd.nil _ _)) ho4 hG4
      refine wp_go ?_
      go_wp2
      go_meet
      exact hv
    · have hp : P = [] := by rw [Hpr.out, if_neg h0]
      subst hp
      go_wp2
      go_meet
      exact VRow.nil w G hB1
  case rest =>
  clear Hpr Hrg
  go_wp2
  go_loopw [3, 6] (fun ov iv wr => ∃ i : Nat, i ≤ 61 ∧ iv = .int .i64 i ∧ VRow w wr G ov (P ++ wrotesF l i)) (fun _ i _ => 61 - (intOf i).toNat)
  case atStart => exact ⟨0, Nat.zero_le _, rfl, by rw [show wrotesF l 0 = [] from rfl, List.append_nil]; exact hcut⟩
  case round =>
    clear hcut
    obtain ⟨i, hi, rfl, hv⟩ := hrel
    by_cases hlt : i < 61
    · have hI : (i : Int) ≤ 60 := by omega
      have hwf := len_wrotesF l i
      have hsF := wrotesF_succ l i
      obtain ⟨Q, hQ⟩ : ∃ Q, Q = P ++ wrotesF l i := ⟨_, rfl⟩
      have hQl : Q.length ≤ 2600 := by rw [hQ, List.length_append]; omega
      have HsF : Hid (P ++ wrotesF l (i + 1) = Q ++ wrotesR l i 41) := by show _ = _; rw [hsF, hQ, List.append_assoc]
      rw [← hQ] at hv
      clear hQ hsF hwf
      go_wp2
      go_loopw [3, 7] (fun ov jv wr => ∃ j : Nat, j ≤ 41 ∧ jv = .int .i64 j ∧ VRow w wr G ov (Q ++ wrotesR l i j)) (fun _ j _ => 41 - (intOf j).toNat)
      case atStart => exact ⟨0, Nat.zero_le _, rfl, by rw [show wrotesR l i 0 = [] from rfl, List.append_nil]; exact hv⟩
      case round =>
        clear hv
        obtain ⟨j, hj, rfl, hv⟩ := hrel
        by_cases hjt : j < 41
        · have hJ : (j : Int) ≤ 40 := by omega
          have hwr := len_wrotesR l i j
          have hsR := wrotesR_succ l i j
          obtain ⟨L, hL⟩ : ∃ L, L = Q ++ wrotesR l i j := ⟨_, rfl⟩
          have hLl : L.length ≤ 2700 := by rw [hL, List.length_append]; omega
          have HsR : Hid (Q ++ wrotesR l i (j + 1) = L ++ (wroteF l i j).toList) := by show _ = _; rw [hsR, hL, List.append_assoc]
          rw [← hL] at hv
          clear hL hsR hwr
          obtain ⟨xs, hro, hx, hB⟩ := hv
          have hlr := hl0.below hB
          have hwt := wrote13_any l i j _ _ _ hlr
          obtain ⟨o, ho⟩ : ∃ o, o = wroteF l i j := ⟨_, rfl⟩
          rw [← ho] at hwt HsR
          clear ho
          have Hwt := hid hwt
          clear hwt
          obtain ⟨Ao, co, rfl⟩ := own_shape13 hro
          go_wp2_with (fail)
          refine Hwt.out.mono ?_
          rintro e w3 ⟨ub, up, rfl, hub, hup, hB3⟩
          obtain ⟨AB, cb, rfl⟩ := hub.shape
          obtain ⟨AP, cpp, rfl, _, _⟩ := hup.slShape
          unfold Vt.val
          have hll := len_vt (o.getD zV) (.slice AB (o.getD zV).b.length cb) (.slice AP (o.getD zV).ps.length cpp)
          have hel := vt_mk hub hup
          obtain ⟨cs, hcs⟩ : ∃ cs, cs = (o.getD zV).l (.slice AB (o.getD zV).b.length cb) (.slice AP (o.getD zV).ps.length cpp) := ⟨_, rfl⟩
          have ho1 : ∀ v ∈ cs, v.oneCell' = true := by rw [hcs]; exact one_vt
          rw [← hcs] at hll hel ⊢
          have Hll := hid hll
          have Hel := hid hel
          clear hcs hll hel hub hup
          have hro3 := own_bel hro hB3
          have hx3 := hx.keep (F' := G) (fun b hb hF => ⟨hF, hB3.block b hb⟩)
          have hB3' := hB.trans (hB3.mono hB.size)
          clear hro hx hlr Hwt
          go_wp2_with (refine wp_newst 27 8 (.tmp 38) rfl rfl rfl rfl rfl rfl zeroV13 (l := cs) rfl (by rw [Hll.out, len_zVl]) (by rw [Hll.out]; exact sizeVt) ho1 (by simp) ?_; intro w4 hq4 hB4 hs4; refine wp_stop ?_)
          have hro4 := own_bel hro3 hB4
          have hx4 := hx3.keep (F' := G) (fun b hb hF => ⟨hF, hB4.block b hb⟩)
          have hel4 := Hel.out.below hB4
          have hB4' := hB3'.trans (hB4.mono hB3'.size)
          clear hro3 hx3 hB3' Hel
          obtain ⟨g3, hg3⟩ : ∃ g, g = w3.heap.size := ⟨_, rfl⟩
          rw [← hg3] at hq4 ⊢
          clear hg3 hs4
          refine wp_go ?_
          cases o with
          | none =>
            have hn : VRow w w4 G (.slice Ao L.length co) (Q ++ wrotesR l i (j + 1)) := by rw [HsR.out]; simp only [Option.toList_none, List.append_nil]; exact ⟨xs, hro4, hx4, hB4'⟩
            have Hn := hid hn
            clear hn
            go_wp2
            go_roundw
            case rel => exact ⟨j + 1, by omega, by go_num, Hn.out⟩
            case measure => simp [intOf]; omega
          | some y =>
            go_wp2_with (first | refine wp_ld 27 (.tmp 8) rfl rfl rfl hq4.whole Try.underlying27 rfl (by rw [Hll.out]; exact sizeVt) ?_ | (refine wp_pushW (.tmp 41) (.tmp 42) 43 slV13 rfl rfl rfl rfl rfl (us := cs) rfl Hll.out ho1 (by simp [Act.put]) rfl hro4 (by simp only [maxLen]; omega) (by omega) hB4'.size ?_; intro v5 w5 ho5 hG5 hd5; refine wp_stop ?_))
            have hn : VRow w w5 G v5 (Q ++ wrotesR l i (j + 1)) := by
              rw [HsR.out]
              exact VRow.push (m := y) hro4 hx4 hB4' (fun b h => (hGF b h).2) hel4 ho5 hG5
            have Hn := hid hn
            clear hn hro4 hx4 hel4 ho5 hG5 hd5
            refine wp_go ?_
            go_wp2
            go_roundw
            case rel => exact ⟨j + 1, by omega, by go_num, Hn.out⟩
            case measure => simp [intOf]; omega
        · have hj' : j = 41 := by omega
          subst hj'
          rw [← HsF.out] at hv
          have Hn := hid hv
          clear hv
          go_wp2
          go_roundw
          case rel => exact ⟨i + 1, by omega, by go_num, Hn.out⟩
          case measure => simp [intOf]; omega
    · have hi' : i = 61 := by omega
      subst hi'
      obtain ⟨Q, hQ⟩ : ∃ Q, Q = P ++ wrotesF l 61 := ⟨_, rfl⟩
      have hQl : Q.length ≤ 2600 := by rw [hQ, List.length_append]; have := len_wrotesF l 61; omega
      rw [← hQ] at hv HAl
      clear hQ
      obtain ⟨xs, hro, hx, hB⟩ := hv
      have hlr := hl0.below hB
      have hwt := acc13_any l _ _ _ hlr
      obtain ⟨o, ho⟩ : ∃ o, o = accF l := ⟨_, rfl⟩
      rw [← ho] at hwt HAl
      clear ho
      have Hwt := hid hwt
      clear hwt
      obtain ⟨Ao, co, rfl⟩ := own_shape13 hro
      go_wp2_with (fail)
      refine Hwt.out.mono ?_
      rintro e w3 ⟨ub, up, rfl, hub, hup, hB3⟩
      obtain ⟨AB, cb, rfl⟩ := hub.shape
      obtain ⟨AP, cpp, rfl, _, _⟩ := hup.slShape
      unfold Vt.val
      have hll := len_vt (o.getD zV) (.slice AB (o.getD zV).b.length cb) (.slice AP (o.getD zV).ps.length cpp)
      have hel := vt_mk hub hup
      obtain ⟨cs, hcs⟩ : ∃ cs, cs = (o.getD zV).l (.slice AB (o.getD zV).b.length cb) (.slice AP (o.getD zV).ps.length cpp) := ⟨_, rfl⟩
      have ho1 : ∀ v ∈ cs, v.oneCell' = true := by rw [hcs]; exact one_vt
      rw [← hcs] at hll hel ⊢
      have Hll := hid hll
      have Hel := hid hel
      clear hcs hll hel hub hup
      have hro3 := own_bel hro hB3
      have hx3 := hx.keep (F' := G) (fun b hb hF => ⟨hF, hB3.block b hb⟩)
      have hB3' := hB.trans (hB3.mono hB.size)
      clear hro hx hlr Hwt
      go_wp2_with (refine wp_newst 27 10 (.tmp 48) rfl rfl rfl rfl rfl rfl zeroV13 (l := cs) rfl (by rw [Hll.out, len_zVl]) (by rw [Hll.out]; exact sizeVt) ho1 (by simp) ?_; intro w4 hq4 hB4 hs4; refine wp_stop ?_)
      have hro4 := own_bel hro3 hB4
      have hx4 := hx3.keep (F' := G) (fun b hb hF => ⟨hF, hB4.block b hb⟩)
      have hel4 := Hel.out.below hB4
      have hB4' := hB3'.trans (hB4.mono hB3'.size)
      clear hro3 hx3 hB3' Hel
      obtain ⟨g3, hg3⟩ : ∃ g, g = w3.heap.size := ⟨_, rfl⟩
      rw [← hg3] at hq4 ⊢
      clear hg3 hs4
      refine wp_go ?_
      cases o with
      | none =>
        have hn : VRow w w4 G (.slice Ao Q.length co) Al := by rw [HAl.out]; simp only [Option.toList_none, List.append_nil]; exact ⟨xs, hro4, hx4, hB4'⟩
        have Hn := hid hn
        clear hn
        go_wp2
        go_ret
        exact ⟨_, rfl, Hn.out.rd (fun b h => .inl (hGF b h).1) (fun b h => .inr h), hB4'⟩
      | some y =>
        go_wp2_with (first | refine wp_ld 27 (.tmp 10) rfl rfl rfl hq4.whole Try.underlying27 rfl (by rw [Hll.out]; exact sizeVt) ?_ | (refine wp_pushW (.tmp 51) (.tmp 52) 53 slV13 rfl rfl rfl rfl rfl (us := cs) rfl Hll.out ho1 (by simp [Act.put]) rfl hro4 (by simp only [maxLen]; omega) (by omega) hB4'.size ?_; intro v5 w5 ho5 hG5 hd5; refine wp_stop ?_))
        have hn : VRow w w5 G v5 Al := by
          rw [HAl.out]
          exact VRow.push (m := y) hro4 hx4 hB4' (fun b h => (hGF b h).2) hel4 ho5 hG5
        have Hn := hid hn
        clear hn hro4 hx4 hel4 ho5 hG5 hd5
        refine wp_go ?_
        go_wp2
        go_ret
        exact ⟨_, rfl, Hn.out.rd (fun b h => .inl (hGF b h).1) (fun b h => .inr h), by obtain ⟨_, _, _, h⟩ := Hn.out; exact h⟩
end Go.Proofs.Ytkoncjcnpconkaa
