/- J3: layer 13: contracts of the document's Slot, Reg, Wrote. -/
import Derived.Test.YtkoncjcnpconkaaJ2
namespace Go.V
open Go.RowKit
theorem slotS_if (n : Int) (m : Vt) (h : 1 < m.k ∧ n < m.s) : slotS n m = m.s := if_pos h
theorem slotS_no (n : Int) (m : Vt) (h : ¬ (1 < m.k ∧ n < m.s)) : slotS n m = n := if_neg h
theorem regS_if (p : Int × Int) (m : Vt) (h : m.k = 1 ∧ (p.1 < m.v ∨ m.v = p.1 ∧ p.2 < m.r)) : regS p m = (m.v, m.r) := if_pos h
theorem regS_no (p : Int × Int) (m : Vt) (h : ¬ (m.k = 1 ∧ (p.1 < m.v ∨ m.v = p.1 ∧ p.2 < m.r))) : regS p m = p := if_neg h
end Go.V
namespace Go.Proofs.Ytkoncjcnpconkaa
open Go.RowKit Go.V
theorem sizeVt : (Try.prog.info? 27).map (·.size) = some 38 := by kernel_rfl
set_option maxRecDepth 100000 in
set_option maxHeartbeats 2000000 in
theorem slot13_any (l : List Vt) (vl : Value) (F : Nat → Prop) (w : World) (hl : Rd w F vl (wds vtD l)) :
    Calls Try.prog 40 #[vl] w fun e w' => e = .returned (.int .i64 (slotF l)) ∧ w' = w := by
  obtain ⟨A, c, rfl, hc1, hc2⟩ := wds_shape hl
  have hcl : l.length ≤ 9223372036854775807 := by simp [maxLen] at hc2; omega
  go_enter Try.func40, Try.ntmps40
  go_wp2
  go_loopw [3, 4] (fun nv iv wr => ∃ i : Nat, ∃ n : Int, i ≤ l.length ∧ iv = .int .i64 i ∧ nv = .int .i64 n ∧ Hid (n = slotF (l.take i)) ∧ wr = w) (fun _ i _ => l.length - (intOf i).toNat)
  case atStart => exact ⟨0, 0, Nat.zero_le _, rfl, rfl, hid rfl, rfl⟩
  case round =>
    obtain ⟨i, n, hi, rfl, rfl, hn, rfl⟩ := hrel
    by_cases hlt : i < l.length
    · obtain ⟨f, hf⟩ : ∃ f, l[i]? = some f := ⟨_, List.getElem?_eq_getElem hlt⟩
      have hI : (i : Int) < (l.length : Int) := by omega
      obtain ⟨g, off, cs, rfl, hg, hr, he⟩ := wd_el hl hf
      obtain ⟨ub, up, rfl, _, _⟩ := vt_open he
      have c0 : wr.cell? ⟨g, off + i * 38, none⟩ = some (.int .i64 f.k) := hr 0 _ rfl
      have c3 : wr.cell? ⟨g, off + i * 38 + 3, none⟩ = some (.int .i64 f.s) := hr 3 _ rfl
      have Hs : Hid (slotF (l.take (i + 1)) = slotS n f) := by show _ = _; rw [take_snocV hf, slotF_snoc, ← hn.out]
      clear hf he hr
      by_cases h1 : 1 < f.k
      · by_cases h2 : n < f.s
        · have Hn := hid (Hs.out.trans (slotS_if n f ⟨h1, h2⟩)).symm
          go_wp2_with (first | refine wp_ixa 30 (.tmp 11) (.tmp 12) rfl rfl rfl rfl Try.underlying30 hlt sizeVt ?_ | refine wp_ixag 30 (.tmp 18) (.tmp 19) rfl rfl rfl rfl Try.underlying30 hlt sizeVt ?_ | refine wp_ixa 30 (.tmp 26) (.tmp 27) rfl rfl rfl rfl Try.underlying30 hlt sizeVt ?_)
          go_roundw
          case rel => exact ⟨i + 1, f.s, by omega, by go_num, rfl, Hn, trivial⟩
          case measure => simp [intOf]; omega
        · have Hn := hid (Hs.out.trans (slotS_no n f (fun h => h2 h.2))).symm
          go_wp2_with (first | refine wp_ixa 30 (.tmp 11) (.tmp 12) rfl rfl rfl rfl Try.underlying30 hlt sizeVt ?_ | refine wp_ixag 30 (.tmp 18) (.tmp 19) rfl rfl rfl rfl Try.underlying30 hlt sizeVt ?_)
          go_roundw
          case rel => exact ⟨i + 1, n, by omega, by go_num, rfl, Hn, trivial⟩
          case measure => simp [intOf]; omega
      · have Hn := hid (Hs.out.trans (slotS_no n f (fun h => h1 h.1))).symm
        go_wp2_with (first | refine wp_ixa 30 (.tmp 11) (.tmp 12) rfl rfl rfl rfl Try.underlying30 hlt sizeVt ?_)
        go_roundw
        case rel => exact ⟨i + 1, n, by omega, by go_num, rfl, Hn, trivial⟩
        case measure => simp [intOf]; omega
    · have hi' : i = l.length := by omega
      subst hi'
      have hI : ¬ (l.length : Int) < (l.length : Int) := by omega
      have Hn : Hid (n = slotF l) := by show _ = _; rw [hn.out, List.take_length]
      clear hn
      go_wp2
      go_ret
      exact ⟨by rw [← Hn.out]; rfl, rfl⟩
set_option maxRecDepth 100000 in
set_option maxHeartbeats 4000000 in
theorem reg13_any (l : List Vt) (vl : Value) (F : Nat → Prop) (w : World) (hl : Rd w F vl (wds vtD l)) :
    Calls Try.prog 41 #[vl] w fun e w' => e = .returned (.tuple #[.int .i64 (regF l).1, .int .i64 (regF l).2]) ∧ Below w.heap.size w w' := by
  obtain ⟨A, c, rfl, hc1, hc2⟩ := wds_shape hl
  have hcl : l.length ≤ 9223372036854775807 := by simp [maxLen] at hc2; omega
  go_enter Try.func41, Try.ntmps41
  go_wp2
  go_loopw [4, 5, 6] (fun av bv iv wr => ∃ i : Nat, ∃ a b : Int, i ≤ l.length ∧ iv = .int .i64 i ∧ av = .int .i64 a ∧ bv = .int .i64 b ∧ Hid ((a, b) = regF (l.take i)) ∧ Below w.heap.size w wr) (fun _ _ i _ => l.length - (intOf i).toNat)
  case atStart => exact ⟨0, -1, -1, Nat.zero_le _, rfl, rfl, rfl, hid rfl, Below.refl _ _⟩
  case round =>
    obtain ⟨i, a, b, hi, rfl, rfl, rfl, hn, hB⟩ := hrel
    by_cases hlt : i < l.length
    · obtain ⟨f, hf⟩ : ∃ f, l[i]? = some f := ⟨_, List.getElem?_eq_getElem hlt⟩
      have hI : (i : Int) < (l.length : Int) := by omega
      obtain ⟨g, off, cs, rfl, hg, hr, he⟩ := wd_el (hl.below hB) hf
      obtain ⟨ub, up, rfl, hub, hup⟩ := vt_open he
      obtain ⟨AB, cb, rfl⟩ := hub.shape
      obtain ⟨AP, cpp, rfl, _, _⟩ := hup.slShape
      have Hs : Hid (regF (l.take (i + 1)) = regS (a, b) f) := by show _ = _; rw [take_snocV hf, regF_snoc, ← hn.out]
      have hll := len_vt f (.slice AB f.b.length cb) (.slice AP f.ps.length cpp)
      obtain ⟨cs, hcs⟩ : ∃ cs, cs = f.l (.slice AB f.b.length cb) (.slice AP f.ps.length cpp) := ⟨_, rfl⟩
      have ho1 : ∀ v ∈ cs, v.oneCell' = true := by rw [hcs]; exact one_vt
      have e0 : cs[0]? = some (.int .i64 f.k) := by rw [hcs]; rfl
      have e1 : cs[1]? = some (.int .i64 f.v) := by rw [hcs]; rfl
      have e2 : cs[2]? = some (.int .i64 f.r) := by rw [hcs]; rfl
      rw [← hcs] at hr hll
      clear hcs he hub hup hf
      have Hll := hid hll
      clear hll
      go_wp2_with (first | refine wp_ixa 30 (.tmp 14) (.tmp 15) rfl rfl rfl rfl Try.underlying30 hlt sizeVt ?_ | refine wp_ld 27 (.tmp 16) rfl rfl rfl hr Try.underlying27 rfl (by rw [Hll.out]; exact sizeVt) ?_ | (refine wp_newst 27 7 (.tmp 17) rfl rfl rfl rfl rfl rfl zeroV13 (l := cs) rfl (by rw [Hll.out]; simp [zVl, zs8]) (by rw [Hll.out]; exact sizeVt) ho1 (by simp [Act.put]) ?_; intro w4 hq4 hB4 hs4; refine wp_stop ?_))
      have hB' := hB.trans (hB4.mono hB.size)
      have c0 := hq4.cellAt 0 _ e0
      have c1 := hq4.cellAt 1 _ e1
      have c2 := hq4.cellAt 2 _ e2
      clear e0 e1 e2 hr ho1 hB4 hs4 hq4
      refine wp_go ?_
      by_cases hk : f.k = 1
      case neg =>
        have hkb : (f.k == 1) = false := beq_eq_false_iff_ne.2 hk
        have Hn := hid (Hs.out.trans (regS_no (a, b) f (fun h => hk h.1))).symm
        clear hk
        go_wp2
        go_roundw
        case rel => exact ⟨i + 1, a, b, by omega, by go_num, rfl, rfl, Hn, hB'⟩
        case measure => simp [intOf]; omega
      have hkb : (f.k == 1) = true := beq_iff_eq.2 hk
      by_cases hv : a < f.v
      · have Hn := hid (Hs.out.trans (regS_if (a, b) f ⟨hk, .inl hv⟩)).symm
        clear hk
        go_wp2
        go_roundw
        case rel => exact ⟨i + 1, f.v, f.r, by omega, by go_num, rfl, rfl, Hn, hB'⟩
        case measure => simp [intOf]; omega
      by_cases hv2 : f.v = a
      case neg =>
        have hvb : (f.v == a) = false := beq_eq_false_iff_ne.2 hv2
        have Hn := hid (Hs.out.trans (regS_no (a, b) f (by rintro ⟨_, h | h⟩; exact hv h; exact hv2 h.1))).symm
        clear hk hv2
        go_wp2
        go_roundw
        case rel => exact ⟨i + 1, a, b, by omega, by go_num, rfl, rfl, Hn, hB'⟩
        case measure => simp [intOf]; omega
      have hvb : (f.v == a) = true := beq_iff_eq.2 hv2
      by_cases hr2 : b < f.r
      · have Hn := hid (Hs.out.trans (regS_if (a, b) f ⟨hk, .inr ⟨hv2, hr2⟩⟩)).symm
        clear hk hv2
        go_wp2
        go_roundw
        case rel => exact ⟨i + 1, f.v, f.r, by omega, by go_num, rfl, rfl, Hn, hB'⟩
        case measure => simp [intOf]; omega
      · have Hn := hid (Hs.out.trans (regS_no (a, b) f (by rintro ⟨_, h | h⟩; exact hv h; exact hr2 h.2))).symm
        clear hk hv2
        go_wp2
        go_roundw
        case rel => exact ⟨i + 1, a, b, by omega, by go_num, rfl, rfl, Hn, hB'⟩
        case measure => simp [intOf]; omega
    · have hi' : i = l.length := by omega
      subst hi'
      have hI : ¬ (l.length : Int) < (l.length : Int) := by omega
      have Hn : Hid ((a, b) = regF l) := by show _ = _; rw [hn.out, List.take_length]
      clear hn
      go_wp2
      go_ret2
      exact ⟨by rw [← Hn.out]; rfl, hB⟩
set_option maxRecDepth 100000 in
set_option maxHeartbeats 4000000 in
theorem wrote13_any (l : List Vt) (v r : Int) (vl : Value) (F : Nat → Prop) (w : World) (hl : Rd w F vl (wds vtD l)) :
    Calls Try.prog 43 #[vl, .int .i64 v, .int .i64 r] w fun e w' => ∃ ub up, e = .returned (.tuple #[((wroteF l v r).getD zV).val ub up, .bool (wroteF l v r).isSome]) ∧ Rd w' F ub (bys ((wroteF l v r).getD zV).b) ∧ Rd w' F up (tx ((wroteF l v r).getD zV).ps) ∧ Below w.heap.size w w' := by
  obtain ⟨A, c, rfl, hc1, hc2⟩ := wds_shape hl
  have hcl : l.length ≤ 9223372036854775807 := by simp [maxLen] at hc2; omega
  have hb0 := Blk.new' w 27 zVl
  have hB0 : Below w.heap.size w (w.alloc (.cells zVl.toArray 27)) := (Below.refl _ _).alloc (Nat.le_refl _) _
  have hl0 := (hl.weak (F' := fun b => F b ∧ b < w.heap.size) (fun b hb hf => ⟨hf, hb⟩)).below hB0
  have hsl := fun (vl : Value) (F : Nat → Prop) (w : World) (hl : Rd w F vl (wds vtD l)) => slot13_any l vl F w hl
  obtain ⟨S, hS⟩ : ∃ S, S = slotF l := ⟨_, rfl⟩
  obtain ⟨R, hR⟩ : ∃ R, R = wroteF l v r := ⟨_, rfl⟩
  rw [← hS] at hsl
  rw [← hR]
  unfold wroteF at hR
  rw [← hS] at hR
  have HR := hid hR
  have Hsl := hid hsl
  clear hR hS hsl
  go_enter Try.func43, Try.ntmps43
  go_wp2_with (refine wp_new 27 rfl rfl zeroV13 ?_)
  obtain ⟨w0, hw0⟩ : ∃ x, x = w.alloc (.cells zVl.toArray 27) := ⟨_, rfl⟩
  rw [← hw0] at hb0 hB0 hl0 ⊢
  clear hw0
  obtain ⟨g0, hg0⟩ : ∃ g, g = w.heap.size := ⟨_, rfl⟩
  rw [← hg0] at hb0 ⊢
  have hga : w.heap.size ≤ g0 := by omega
  clear hg0
  obtain ⟨F', hF'⟩ : ∃ F' : Nat → Prop, F' = fun b => F b ∧ b < w.heap.size := ⟨_, rfl⟩
  rw [← hF'] at hl0
  have hFF : ∀ b, F' b → F b ∧ b < w.heap.size := fun b h => by rw [hF'] at h; exact h
  clear hF'
  refine (Hsl.out _ _ _ hl0).mono ?_
  rintro e w1 ⟨rfl, rfl⟩
  go_wp2
  go_loopw [9] (fun iv wr => ∃ i : Nat, i ≤ l.length ∧ iv = .int .i64 i ∧ Hid (∀ (j : Nat) (f : Vt), j < i → l[j]? = some f → isW S v r f = false) ∧ wr = w1) (fun i _ => l.length - (intOf i).toNat)
  case atStart => exact ⟨0, Nat.zero_le _, rfl, hid (fun j f hj => absurd hj (Nat.not_lt_zero _)), rfl⟩
  case round =>
    obtain ⟨i, hi, rfl, hall, rfl⟩ := hrel
    by_cases hlt : i < l.length
    · obtain ⟨f, hf⟩ : ∃ f, l[i]? = some f := ⟨_, List.getElem?_eq_getElem hlt⟩
      have hI : (i : Int) < (l.length : Int) := by omega
      obtain ⟨g, off, cs, rfl, hg, hr, he⟩ := wd_el hl0 hf
      obtain ⟨ub, up, rfl, hub, hup⟩ := vt_open he
      obtain ⟨AB, cb, rfl⟩ := hub.shape
      obtain ⟨AP, cpp, rfl, _, _⟩ := hup.slShape
      have c0 : wr.cell? ⟨g, off + i * 38, none⟩ = some (.int .i64 f.k) := hr 0 _ rfl
      have c1 : wr.cell? ⟨g, off + i * 38 + 1, none⟩ = some (.int .i64 f.v) := hr 1 _ rfl
      have c2 : wr.cell? ⟨g, off + i * 38 + 2, none⟩ = some (.int .i64 f.r) := hr 2 _ rfl
      have c3 : wr.cell? ⟨g, off + i * 38 + 3, none⟩ = some (.int .i64 f.s) := hr 3 _ rfl
      have Hf := hid hf
      have hno : isW S v r f = false → Hid (∀ (j : Nat) (x : Vt), j < i + 1 → l[j]? = some x → isW S v r x = false) := fun h j x hj hx => by
        rcases Nat.lt_or_ge j i with h' | h'
        · exact hall.out j x h' hx
        · have : j = i := by omega
          subst this
          rw [Hf.out] at hx
          injection hx with hx
          subst hx
          exact h
      have Hw : Hid (isW S v r f = (f.k == 2 && f.s == S && f.v == v && f.r == r)) := hid rfl
      have Hno := hid hno
      clear hf he hno
      cases hb1 : f.k == 2
      case false =>
        have Hn := Hno.out (by rw [Hw.out, hb1]; rfl)
        go_wp2_with (first | refine wp_ixa 30 (.tmp 18) (.tmp 19) rfl rfl rfl rfl Try.underlying30 hlt sizeVt ?_)
        go_roundw
        case rel => exact ⟨i + 1, by omega, by go_num, Hn, trivial⟩
        case measure => simp [intOf]; omega
      cases hb2 : f.s == S
      case false =>
        have Hn := Hno.out (by rw [Hw.out, hb1, hb2]; rfl)
        go_wp2_with (first | refine wp_ixa 30 (.tmp 18) (.tmp 19) rfl rfl rfl rfl Try.underlying30 hlt sizeVt ?_ | refine wp_ixag 30 (.tmp 25) (.tmp 26) rfl rfl rfl rfl Try.underlying30 hlt sizeVt ?_)
        go_roundw
        case rel => exact ⟨i + 1, by omega, by go_num, Hn, trivial⟩
        case measure => simp [intOf]; omega
      cases hb3 : f.v == v
      case false =>
        have Hn := Hno.out (by rw [Hw.out, hb1, hb2, hb3]; rfl)
        go_wp2_with (first | refine wp_ixa 30 (.tmp 18) (.tmp 19) rfl rfl rfl rfl Try.underlying30 hlt sizeVt ?_ | refine wp_ixag 30 (.tmp 25) (.tmp 26) rfl rfl rfl rfl Try.underlying30 hlt sizeVt ?_ | refine wp_ixag 30 (.tmp 34) (.tmp 35) rfl rfl rfl rfl Try.underlying30 hlt sizeVt ?_)
        go_roundw
        case rel => exact ⟨i + 1, by omega, by go_num, Hn, trivial⟩
        case measure => simp [intOf]; omega
      cases hb4 : f.r == r
      case false =>
        have Hn := Hno.out (by rw [Hw.out, hb1, hb2, hb3, hb4]; rfl)
        go_wp2_with (first | refine wp_ixa 30 (.tmp 18) (.tmp 19) rfl rfl rfl rfl Try.underlying30 hlt sizeVt ?_ | refine wp_ixag 30 (.tmp 25) (.tmp 26) rfl rfl rfl rfl Try.underlying30 hlt sizeVt ?_ | refine wp_ixag 30 (.tmp 34) (.tmp 35) rfl rfl rfl rfl Try.underlying30 hlt sizeVt ?_ | refine wp_ixag 30 (.tmp 43) (.tmp 44) rfl rfl rfl rfl Try.underlying30 hlt sizeVt ?_)
        go_roundw
        case rel => exact ⟨i + 1, by omega, by go_num, Hn, trivial⟩
        case measure => simp [intOf]; omega
      have hRf : R = some f := by rw [HR.out]; exact find_at Hf.out (by rw [Hw.out, hb1, hb2, hb3, hb4]; rfl) hall.out
      subst hRf
      have hll := len_vt f (.slice AB f.b.length cb) (.slice AP f.ps.length cpp)
      obtain ⟨cs, hcs⟩ : ∃ cs, cs = f.l (.slice AB f.b.length cb) (.slice AP f.ps.length cpp) := ⟨_, rfl⟩
      have ho1 : ∀ v ∈ cs, v.oneCell' = true := by rw [hcs]; exact one_vt
      rw [← hcs] at hr hll
      have Hcs := hid hcs
      have Hll := hid hll
      clear hll hcs
      go_wp2_with (first | refine wp_ixa 30 (.tmp 18) (.tmp 19) rfl rfl rfl rfl Try.underlying30 hlt sizeVt ?_ | refine wp_ixag 30 (.tmp 25) (.tmp 26) rfl rfl rfl rfl Try.underlying30 hlt sizeVt ?_ | refine wp_ixag 30 (.tmp 34) (.tmp 35) rfl rfl rfl rfl Try.underlying30 hlt sizeVt ?_ | refine wp_ixag 30 (.tmp 43) (.tmp 44) rfl rfl rfl rfl Try.underlying30 hlt sizeVt ?_ | refine wp_ixa 30 (.tmp 51) (.tmp 52) rfl rfl rfl rfl Try.underlying30 hlt sizeVt ?_ | refine wp_ld 27 (.tmp 53) rfl rfl rfl hr Try.underlying27 rfl (by rw [Hll.out]; exact sizeVt) ?_ | (refine wp_st 27 (.tmp 6) (.tmp 54) rfl rfl rfl (f := 0) rfl (l := cs) rfl hb0 (by rw [Hll.out]; simp [zVl, zs8]) (by rw [Hll.out]; exact sizeVt) ho1 ?_; intro w5 hb5 hG5; refine wp_stop ?_))
      have hb5 : Blk w5 g0 27 cs := by
        have := hb5
        rw [List.take_zero, List.nil_append, List.drop_eq_nil_of_le (by rw [Hll.out]; simp [zVl, zs8]), List.append_nil] at this
        exact this
      refine wp_go ?_
      go_wp2
      refine ret_cell1 rfl rfl rfl hb5.whole Try.underlying27 rfl (by rw [Hll.out]; exact sizeVt) rfl ?_
      have hsep : ∀ b, b < wr.heap.size → F' b → w5.heap[b]? = wr.heap[b]? := fun b hb hf => hG5.block b hb (by have := (hFF b hf).2; intro e; injection e with e; omega)
      refine ⟨_, _, by rw [Hcs.out]; rfl, hub.keep (fun b hb hf => ⟨(hFF b hf).1, hsep b hb hf⟩), hup.keep (fun b hb hf => ⟨(hFF b hf).1, hsep b hb hf⟩), hB0.grown hG5 hB0.size (by intro k hk; injection hk with hk; omega)⟩
    · have hi' : i = l.length := by omega
      subst hi'
      have hI : ¬ (l.length : Int) < (l.length : Int) := by omega
      have hRn : R = none := by rw [HR.out]; exact find_no (fun j f hf => hall.out j f (List.getElem?_eq_some_iff.1 hf).1 hf)
      subst hRn
      go_wp2_with (first | refine wp_bld 27 [] rfl rfl [] rfl bldV13 ?_ | (refine wp_st 27 (.tmp 6) (.tmp 55) rfl rfl rfl (f := 0) rfl (l := zVl) rfl hb0 (by rw [len_zVl]; omega) (by rw [len_zVl]; exact sizeVt) one_zVl ?_; intro w5 hb5 hG5; refine wp_stop ?_))
      have hb5 : Blk w5 g0 27 zVl := by
        have := hb5
        rw [List.take_zero, List.nil_append, List.drop_eq_nil_of_le (by rw [len_zVl]; omega), List.append_nil] at this
        exact this
      refine wp_go ?_
      go_wp2
      refine ret_cell1 rfl rfl rfl hb5.whole Try.underlying27 rfl (by rw [len_zVl]; exact sizeVt) rfl ?_
      exact ⟨.slice none 0 0, .slice none 0 0, rfl, Rd.nil _ _, Rd.nil _ _, hB0.grown hG5 hB0.size (by intro k hk; injection hk with hk; omega)⟩
end Go.Proofs.Ytkoncjcnpconkaa
