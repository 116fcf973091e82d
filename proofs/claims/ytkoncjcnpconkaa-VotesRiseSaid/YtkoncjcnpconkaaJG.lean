/- JG: layer 13: contract of votes: Get, of bytes that were put. -/
import Derived.Test.YtkoncjcnpconkaaJY
namespace Go.V
open Go.RowKit
def so13 (i : Nat) : Nat := if i = 0 then 0 else 2 * i - 1
theorem so13_succ (i : Nat) : so13 (i + 1) = so13 i + nsz13 i := by
  unfold so13 nsz13
  split <;> split <;> omega
def nums13 (m : Vt) (i : Nat) : List Value := (List.range i).map fun k => .int .i64 (m.num k)
theorem nums13_succ (m : Vt) (i : Nat) : nums13 m (i + 1) = nums13 m i ++ [.int .i64 (m.num i)] := by
  unfold nums13
  rw [List.range_succ, List.map_append]
  rfl
theorem nums13_len (m : Vt) (i : Nat) : (nums13 m i).length = i := by unfold nums13; simp
theorem num13_sm {m : Vt} (h : partsV m = true) (i : Nat) : 0 ≤ m.num i ∧ m.num i ≤ 255 := by
  unfold partsV at h
  rw [decide_eq_true_iff] at h
  obtain ⟨h1, h2, h3, h4, _⟩ := h
  unfold Vt.num
  repeat' split
  all_goals omega
end Go.V
namespace Go.Proofs.Ytkoncjcnpconkaa
open Go.RowKit Go.V
theorem un_eq {x : Int} (h : 0 ≤ x ∧ x ≤ 255) : ((un x : Nat) : Int) = x := by unfold un; omega
theorem un_lt256 {x : Int} (h : 0 ≤ x ∧ x ≤ 255) (i : Nat) : un x < 256 ^ nsz13 i := by
  have : un x ≤ 255 := by unfold un; omega
  unfold nsz13
  split
  · show _ < 256 ^ 1; omega
  · show _ < 256 ^ 2; omega
/-- the numbers, as they are read -/
theorem rdn13 {m : Vt} (h : partsV m = true) (i : Nat) (hi : i < 4) : fixRd (nsz13 i : Int) ((Vt.by m).drop (so13 i)) = .ok (un (m.num i)) := by
  have hlt := fun k => un_lt256 (num13_sm h k) k
  have e : ∃ pre rest, Vt.by m = pre ++ (fixR (nsz13 i : Int) (un (m.num i)) ++ rest) ∧ pre.length = so13 i := by
    unfold Vt.by Vt.hd
    match i, hi with
    | 0, _ => exact ⟨[], _, by simp only [List.append_assoc, List.nil_append]; rfl, rfl⟩
    | 1, _ => exact ⟨fixR 1 (un m.k), _, by simp only [List.append_assoc]; rfl, by rw [len_fixR1]; rfl⟩
    | 2, _ => exact ⟨fixR 1 (un m.k) ++ fixR 2 (un m.v), _, by simp only [List.append_assoc]; rfl, by rw [List.length_append, len_fixR1, len_fixR2]; rfl⟩
    | 3, _ => exact ⟨fixR 1 (un m.k) ++ fixR 2 (un m.v) ++ fixR 2 (un m.r), _, by simp only [List.append_assoc]; rfl, by rw [List.length_append, List.length_append, len_fixR1, len_fixR2, len_fixR2]; rfl⟩
  obtain ⟨pre, rest, e, hl⟩ := e
  rw [e, List.drop_left' hl, fixRd_of (nsz13 i) (un (m.num i)) _ (okN_nsz i) (hlt i)]
theorem rdh13 (m : Vt) (j : Nat) (hj : j < 32) : fixRd ((1 : Nat) : Int) ((Vt.by m).drop (7 + j)) = .ok ((m.h[j]?.getD 0).toNat) := by
  have hjl : j < m.h.length := by rw [m.hh]; exact hj
  have hc : m.h = m.h.take j ++ ([m.h[j]] ++ m.h.drop (j + 1)) := by
    rw [List.singleton_append, ← List.drop_eq_getElem_cons hjl, List.take_append_drop]
  have hg : m.h[j]?.getD 0 = m.h[j] := by rw [List.getElem?_eq_getElem hjl]; rfl
  rw [hg]
  obtain ⟨c, hcc⟩ : ∃ c, c = m.h[j] := ⟨_, rfl⟩
  rw [← hcc] at hc ⊢
  have e : ∃ pre rest, Vt.by m = pre ++ (fixR ((1 : Nat) : Int) c.toNat ++ rest) ∧ pre.length = 7 + j := by
    refine ⟨(((fixR 1 (un m.k) ++ fixR 2 (un m.v)) ++ fixR 2 (un m.r)) ++ fixR 2 (un m.s)) ++ m.h.take j, m.h.drop (j + 1) ++ ((packed m.b.length ++ m.b) ++ (packed m.ps.length ++ m.ps.flatMap tb1)), ?_, ?_⟩
    · unfold Vt.by Vt.hd
      rw [show fixR ((1 : Nat) : Int) c.toNat = [c] from fix1 c]
      conv => lhs; rw [hc]
      simp only [List.append_assoc]
    · simp only [List.length_append, len_fixR1, len_fixR2, List.length_take]
      omega
  obtain ⟨pre, rest, e, hl⟩ := e
  rw [e, List.drop_left' hl, fixRd_of 1 c.toNat _ (by unfold okN; omega) (by have := c.toNat_lt; show _ < 256 ^ 1; omega)]
set_option maxRecDepth 100000 in
set_option maxHeartbeats 4000000 in
theorem readHead13_any (p : Nat) (F : Nat → Prop) (X : List UInt8) (m : Vt) (w : World) (hr0 : RdR w p F X 0)
    (hn : ∀ i, i < 4 → fixRd (nsz13 i : Int) (X.drop (so13 i)) = .ok (un (m.num i))) (hm : ∀ i, 0 ≤ m.num i ∧ m.num i ≤ 255) (hh : ∀ j, j < 32 → fixRd ((1 : Nat) : Int) (X.drop (7 + j)) = .ok ((m.h[j]?.getD 0).toNat)) :
    Calls Try.prog 31 #[rp p] w fun e w' => e = .returned (.tuple #[.agg (m.l (.slice none 0 0) (.slice none 0 0)).toArray, .int .i64 0]) ∧ RdR w' p F X 39 ∧ Ch (only p) w w' := by
  have hr := hr0.weakF
  have hpw : p < w.heap.size := by obtain ⟨_, h, _⟩ := id hr; exact lt_of_block h
  obtain ⟨FF, hFF⟩ : ∃ FF, FF = fun b => F b ∧ b < w.heap.size := ⟨_, rfl⟩
  rw [← hFF] at hr
  have hFb : ∀ b, FF b → F b ∧ b < w.heap.size := fun b h => by rw [hFF] at h; exact h
  clear hFF
  have hnp : ¬ F p := by obtain ⟨_, _, _, _, h⟩ := hr0; exact h
  clear hr0
  have Hn := hid hn
  have Hm := hid hm
  have Hh := hid hh
  have hml := m.hh
  clear hn hm hh
  unfold rp
  have hal1 : Below w.heap.size w (w.alloc (.cells zVl.toArray 27)) := (Below.refl _ _).alloc (Nat.le_refl _) _
  have hz2 := Blk.new' w 27 zVl
  have hr := hr.belowR hal1
  go_enter Try.func31, Try.ntmps31
  go_wp2_with (refine wp_new 27 rfl rfl zeroV13 ?_; refine wp_stop ?_)
  obtain ⟨wa, hwa⟩ : ∃ x, x = w.alloc (.cells zVl.toArray 27) := ⟨_, rfl⟩
  rw [← hwa] at hz2 hr hal1 ⊢
  clear hwa
  obtain ⟨g2, hg2⟩ : ∃ g, g = w.heap.size := ⟨_, rfl⟩
  rw [← hg2] at hz2 ⊢
  have hgw2 : w.heap.size ≤ g2 := by omega
  clear hg2
  have hal2 : Below wa.heap.size wa (wa.alloc (.cells zVl.toArray 27)) := (Below.refl _ _).alloc (Nat.le_refl _) _
  have hm3 := Blk.new' wa 27 zVl
  have hr := hr.belowR hal2
  have hg23 : g2 < wa.heap.size := hz2.lt
  have hz2 := hz2.below hal2
  have hB := hal1.trans (hal2.mono hal1.size)
  refine wp_go ?_
  go_wp2_with (refine wp_new 27 rfl rfl zeroV13 ?_; refine wp_stop ?_)
  obtain ⟨w0, hw0⟩ : ∃ x, x = wa.alloc (.cells zVl.toArray 27) := ⟨_, rfl⟩
  rw [← hw0] at hz2 hr hB hm3 ⊢
  obtain ⟨g3, hg3⟩ : ∃ g, g = wa.heap.size := ⟨_, rfl⟩
  rw [← hg3] at hm3 hg23 ⊢
  have hgw3 : w.heap.size ≤ g3 := by omega
  clear hw0 hg3 hal1 hal2
  have hC : Ch (only p) w w0 := (Ch.refl _ _).belowR hB
  refine wp_go ?_
  go_wp2_with (fail)
  refine (numbers13_any g3 w0).mono ?_
  rintro e w1 ⟨rfl, hB1⟩
  have hr := hr.belowR hB1
  have hz2 := hz2.below hB1
  have hm3 := hm3.below hB1
  have hC := hC.belowR hB1
  clear hB hB1
  go_wp2
  go_loopw [13] (fun iv wr => ∃ i : Nat, i ≤ 4 ∧ iv = .int .i64 i ∧ RdR wr p FF X (so13 i) ∧ Blk wr g3 27 (nums13 m i ++ zVl.drop i) ∧ Blk wr g2 27 zVl ∧ Ch (only p) w wr) (fun i _ => 4 - (intOf i).toNat)
  case atStart => exact ⟨0, Nat.zero_le _, rfl, hr, hm3, hz2, hC⟩
  case round =>
    clear hr hm3 hz2 hC
    obtain ⟨i, hi, rfl, hr, hm3, hz2, hC⟩ := hrel
    by_cases hlt : i < 4
    · have hI : (i : Int) < 4 := by omega
      have hcl : (nums13 m i ++ zVl.drop i).length = 38 := by rw [List.length_append, nums13_len, List.length_drop, len_zVl]; omega
      have Hcl := hid hcl
      have Hst := hid (fun v => set_next (Z := zVl) (nums13_len m i) (by rw [len_zVl]; omega) v : ∀ v, (nums13 m i ++ zVl.drop i).set i v = (nums13 m i ++ [v]) ++ zVl.drop (i + 1))
      have hfx := Hn.out i hlt
      have hxb := Hm.out i
      have hun := un_eq hxb
      obtain ⟨x, hx⟩ : ∃ x, x = un (m.num i) := ⟨_, rfl⟩
      obtain ⟨y, hy⟩ : ∃ y, y = m.num i := ⟨_, rfl⟩
      rw [← hx] at hfx hun
      rw [← hy] at hun hxb
      have hsn := so13_succ i
      obtain ⟨K, hK⟩ : ∃ K, K = so13 i := ⟨_, rfl⟩
      obtain ⟨s, hs⟩ : ∃ s, s = nsz13 i := ⟨_, rfl⟩
      rw [← hK] at hr hsn hfx
      rw [← hs] at hsn hfx
      have e0 : (nE13 g3 i)[0]? = some (.pointer (some ⟨g3, i, none⟩)) := rfl
      have e1 : (nE13 g3 i)[1]? = some (.int .i64 (s : Int)) := by rw [hs]; rfl
      have Hy := hid hy
      have Hun := hid hun
      have Hsn := hid hsn
      have hwx : IntKind.i64.wrap (x : Int) = (x : Int) := IntWalk.i64_in _ (by omega)
      clear hcl hx hy hK hs hsn hun
      go_wp2_with (first | refine wp_idxW 98 (.tmp 12) (.tmp 13) rfl rfl (l := nV13 g3) rfl rfl Try.underlying98 hlt aggN1 sizeN1 ?_; rw [nV13_at g3 i hlt] | refine wp_newst 97 6 (.tmp 15) rfl rfl rfl rfl rfl rfl zeroN1 (l := nE13 g3 i) rfl rfl sizeN1 (one_nE13 g3 i) (by simp [Act.put]) ?_; intro w2 hf2 hB2 hs2; refine wp_stop ?_)
      have hsz0 := hC.size
      have hg3l := hm3.lt
      have hg2l := hz2.lt
      have hr := hr.belowR hB2
      have hz2 := hz2.below hB2
      have hm3 := hm3.below hB2
      have hC := hC.belowR hB2
      have hsz := hC.size
      obtain ⟨gf, hgf⟩ : ∃ gf, gf = wr.heap.size := ⟨_, rfl⟩
      rw [← hgf] at hf2 hs2 ⊢
      have hgp : gf ≠ p := by omega
      clear hgf hB2
      have d1 := hf2.cellAt 1 _ e1
      have f1 := fixed_any p FF X K s w2 hr
      unfold rp at f1
      rw [hfx] at f1
      have Hf := hid f1
      clear f1 hfx e1
      refine wp_go ?_
      go_wp2_with (fail)
      refine Hf.out.mono ?_
      rintro e w4 ⟨rfl, hr4, hC4⟩
      simp only [eF, lenF] at hr4 ⊢
      have hz4 := hz2.ch hC4 (by intro h; have h' : g2 = p := h; omega)
      have hm4 := hm3.ch hC4 (by intro h; have h' : g3 = p := h; omega)
      have hf4 := hf2.ch hC4 (by intro h; have h' : gf = p := h; omega)
      have hC4 := hC.trans hC4
      have d0 := hf4.cellAt 0 _ e0
      clear hr hz2 hm3 hf2 Hf d1 e0 hC
      go_wp2_with (refine wp_st1 3 (.tmp 31) (.tmp 30) rfl rfl rfl (f := i) rfl (v := .int .i64 (x : Int)) rfl hm4 (by rw [Hcl.out]; omega) sizeIk rfl rfl ?_; intro w6 hm6 hG6)
      rw [Hst.out, Hun.out, Hy.out, ← nums13_succ] at hm6
      have hz6 := hz4.keep (hG6.block _ hz4.lt (by intro h; injection h with h; omega))
      have hr6 : RdR w6 p FF X (so13 (i + 1)) := by
        rw [Hsn.out]
        obtain ⟨_, hpb, _⟩ := id hr4
        exact RdR.keep (k := K + s) hr4 (hG6.block _ (lt_of_block hpb) (by intro h; injection h with h; omega)) (fun b hb hF => hG6.block _ hb (by intro h; injection h with h; have := (hFb b hF).2; omega))
      have hC6 := hC4.grow hG6 (fun k hk => .inr (by injection hk with hk; omega))
      have Hm6 := hid hm6
      have Hr6 := hid hr6
      clear hm6 hr6 hm4 hr4 hz4 hf4 hG6 hC4
      go_wp2
      go_roundw
      case rel => exact ⟨i + 1, by omega, by go_num, Hr6.out, Hm6.out, hz6, hC6⟩
      case measure => simp [intOf]; omega
    · have hi' : i = 4 := by omega
      subst hi'
      have hI : ¬ (4 : Int) < 4 := by omega
      have hr : RdR wr p FF X 7 := hr
      go_wp2
      go_loopw [33] (fun iv wr => ∃ j : Nat, j ≤ 32 ∧ iv = .int .i64 j ∧ RdR wr p FF X (7 + j) ∧ Blk wr g3 27 ((nums13 m 4 ++ bvs (m.h.take j)) ++ zVl.drop (4 + j)) ∧ Blk wr g2 27 zVl ∧ Ch (only p) w wr) (fun i _ => 32 - (intOf i).toNat)
      case atStart => exact ⟨0, Nat.zero_le _, rfl, hr, by rw [List.take_zero, show bvs [] = [] from rfl, List.append_nil]; exact hm3, hz2, hC⟩
      case round =>
        clear hr hm3 hz2 hC
        obtain ⟨j, hj, rfl, hr, hm3, hz2, hC⟩ := hrel
        by_cases hlt : j < 32
        · have hJ : (j : Int) < 32 := by omega
          have hll : (nums13 m 4 ++ bvs (m.h.take j)).length = 4 + j := by rw [List.length_append, nums13_len, len_bvs, List.length_take]; omega
          have hcl : ((nums13 m 4 ++ bvs (m.h.take j)) ++ zVl.drop (4 + j)).length = 38 := by rw [List.length_append, hll, List.length_drop, len_zVl]; omega
          have Hcl := hid hcl
          have Hst := hid (fun v => set_next (Z := zVl) hll (by rw [len_zVl]; omega) v : ∀ v, ((nums13 m 4 ++ bvs (m.h.take j)) ++ zVl.drop (4 + j)).set (4 + j) v = ((nums13 m 4 ++ bvs (m.h.take j)) ++ [v]) ++ zVl.drop (4 + j + 1))
          have f1 := fixed_any p FF X (7 + j) ((1 : Nat) : Int) wr hr
          unfold rp at f1
          rw [Hh.out j hlt] at f1
          have Hsn : Hid (bvs (m.h.take (j + 1)) = bvs (m.h.take j) ++ [byteV (m.h[j]?.getD 0)]) := by
            show _ = _
            rw [List.take_add_one, List.getElem?_eq_getElem (by omega)]
            show bvs (m.h.take j ++ [m.h[j]]) = _
            unfold bvs
            rw [List.map_append]
            rfl
          obtain ⟨c, hc⟩ : ∃ c, c = m.h[j]?.getD 0 := ⟨_, rfl⟩
          rw [← hc] at f1 Hsn
          obtain ⟨x, hx⟩ : ∃ x, x = c.toNat := ⟨_, rfl⟩
          have hbx : byteV c = .int .u8 (x : Int) := by rw [hx]; rfl
          have hxb : x < 256 := by rw [hx]; exact c.toNat_lt
          rw [← hx] at f1
          rw [hbx] at Hsn
          have hwx : IntKind.u8.wrap (x : Int) = (x : Int) := by rw [u8w]; omega
          have Hf := hid f1
          have hg3l := hm3.lt
          have hg2l := hz2.lt
          clear f1 hc hx hbx hcl hll
          go_wp2_with (fail)
          refine Hf.out.mono ?_
          rintro e w4 ⟨rfl, hr4, hC4⟩
          simp only [eF, lenF] at hr4 ⊢
          have hz4 := hz2.ch hC4 (by intro h; have h' : g2 = p := h; omega)
          have hm4 := hm3.ch hC4 (by intro h; have h' : g3 = p := h; omega)
          have hsz := hC.size
          have hC4 := hC.trans hC4
          clear hr hz2 hm3 hC Hf
          go_wp2_with (refine wp_st1 5 (.tmp 49) (.tmp 47) rfl rfl rfl (f := 4 + j) rfl (v := .int .u8 (x : Int)) rfl hm4 (by rw [Hcl.out]; omega) size8 rfl rfl ?_; intro w6 hm6 hG6)
          rw [Hst.out] at hm6
          have hm6' : Blk w6 g3 27 ((nums13 m 4 ++ bvs (m.h.take (j + 1))) ++ zVl.drop (4 + (j + 1))) := by rw [Hsn.out, ← List.append_assoc (nums13 m 4)]; exact hm6
          have hz6 := hz4.keep (hG6.block _ hz4.lt (by intro h; injection h with h; omega))
          have hr6 : RdR w6 p FF X (7 + (j + 1)) := by
            obtain ⟨_, hpb, _⟩ := id hr4
            exact RdR.keep (k := 7 + j + 1) hr4 (hG6.block _ (lt_of_block hpb) (by intro h; injection h with h; omega)) (fun b hb hF => hG6.block _ hb (by intro h; injection h with h; have := (hFb b hF).2; omega))
          have hC6 := hC4.grow hG6 (fun k hk => .inr (by injection hk with hk; omega))
          have Hm6 := hid hm6'
          have Hr6 := hid hr6
          clear hm6 hm6' hr6 hm4 hr4 hz4 hG6 hC4
          go_wp2
          go_roundw
          case rel => exact ⟨j + 1, by omega, by go_num, Hr6.out, Hm6.out, hz6, hC6⟩
          case measure => simp [intOf]; omega
        · have hj' : j = 32 := by omega
          subst hj'
          have hJ : ¬ (32 : Int) < 32 := by omega
          have hr : RdR wr p FF X 39 := hr
          have hll : (nums13 m 4 ++ bvs (m.h.take 32)) ++ zVl.drop (4 + 32) = m.l (.slice none 0 0) (.slice none 0 0) := by
            rw [List.take_of_length_le (by omega)]
            unfold Vt.l nums13
            simp only [List.range_succ, List.range_zero, List.nil_append, List.map_cons, List.map_nil, List.cons_append]
            rfl
          rw [hll] at hm3
          clear hll
          have hg2l := hz2.lt
          have hg3l := hm3.lt
          go_wp2_with (first | refine wp_ld 27 (.tmp 4) rfl rfl rfl hm3.whole Try.underlying27 rfl (by rw [len_vt]; exact sizeVt) ?_ | (refine wp_st 27 (.tmp 2) (.tmp 51) rfl rfl rfl (f := 0) rfl (l := m.l (.slice none 0 0) (.slice none 0 0)) rfl hz2 (by rw [len_vt, len_zVl]; omega) (by rw [len_vt]; exact sizeVt) one_vt ?_; intro w6 hz6 hG6; refine wp_stop ?_))
          rw [show zVl.take 0 ++ m.l (.slice none 0 0) (.slice none 0 0) ++ zVl.drop (0 + (m.l (.slice none 0 0) (.slice none 0 0)).length) = m.l (.slice none 0 0) (.slice none 0 0) from by rw [len_vt]; simp [zVl, zs8]] at hz6
          have hr6 : RdR w6 p F X 39 := by
            obtain ⟨v, hpb, h2, h3, _⟩ := id hr
            exact ⟨v, (hG6.block _ (lt_of_block hpb) (by intro h; injection h with h; omega)).trans hpb, h2.keep (fun b hb hF => ⟨(hFb b hF).1, hG6.block _ hb (by intro h; injection h with h; have := (hFb b hF).2; omega)⟩), h3, hnp⟩
          have hC6 := hC.grow hG6 (fun k hk => .inr (by injection hk with hk; omega))
          clear hm3 hr hz2 hG6 hC
          refine wp_go ?_
          go_wp2
          refine ret_cell1 rfl rfl rfl hz6.whole Try.underlying27 rfl (by rw [len_vt]; exact sizeVt) rfl ?_
          exact ⟨rfl, hr6, hC6⟩
/-- the texts, as they are read -/
theorem rdt13 {X : List UInt8} {ps : List (List UInt8)} {K : Nat} (hp : ∀ t ∈ ps, t.length ≤ 65536) (hX : X.drop K = ps.flatMap tb1) (i : Nat) (t : List UInt8) (ht : ps[i]? = some t) :
    textR 65536 (X.drop (K + ((ps.take i).flatMap tb1).length)) = .ok (t.length, psz t.length) ∧ ((X.drop (K + ((ps.take i).flatMap tb1).length)).drop (psz t.length)).take t.length = t := by
  have hil := (List.getElem?_eq_some_iff.1 ht).1
  have e : ps.flatMap tb1 = (ps.take i).flatMap tb1 ++ (tb1 t ++ (ps.drop (i + 1)).flatMap tb1) := by
    conv => lhs; rw [← List.take_append_drop i ps]
    rw [List.flatMap_append, List.drop_eq_getElem_cons hil, List.flatMap_cons]
    have : ps[i] = t := by rw [List.getElem?_eq_getElem hil] at ht; injection ht
    rw [this]
  have e2 : X.drop (K + ((ps.take i).flatMap tb1).length) = (packed t.length ++ t) ++ (ps.drop (i + 1)).flatMap tb1 := by
    rw [← List.drop_drop, hX, e, List.drop_left]; rfl
  have htl := hp t (List.mem_of_getElem? ht)
  rw [e2]
  refine ⟨textR_of 65536 t _ (by omega) (by omega), ?_⟩
  rw [List.append_assoc, ← length_packed, List.drop_left, List.take_left]
set_option maxRecDepth 100000 in
set_option maxHeartbeats 4000000 in
theorem readTexts13_any (p : Nat) (F : Nat → Prop) (X : List UInt8) (ps : List (List UInt8)) (K0 K K2 : Nat) (w : World) (hr0 : RdR w p F X K0) (hX : X.length ≤ 35184372088832) (hn : ps.length ≤ 16) (hp : ∀ t ∈ ps, t.length ≤ 65536)
    (hc : cntR 16 (readPk (X.drop K0)) = .ok (ps.length, psz ps.length)) (hK : K0 + psz ps.length = K) (hd : X.drop K = ps.flatMap tb1) (hK2 : K + (ps.flatMap tb1).length = K2) :
    Calls Try.prog 33 #[rp p] w fun e w' => ∃ v, e = .returned (.tuple #[v, .int .i64 0]) ∧ Rd w' (fun b => w.heap.size ≤ b) v (tx ps) ∧ RdR w' p F X K2 ∧ Ch (only p) w w' := by
  have hr := hr0.weakF
  have hpw : p < w.heap.size := by obtain ⟨_, h, _⟩ := id hr; exact lt_of_block h
  obtain ⟨FF, hFF⟩ : ∃ FF, FF = fun b => F b ∧ b < w.heap.size := ⟨_, rfl⟩
  rw [← hFF] at hr
  have hFb : ∀ b, FF b → F b ∧ b < w.heap.size := fun b h => by rw [hFF] at h; exact h
  clear hFF
  have hnp : ¬ F p := by obtain ⟨_, _, _, _, h⟩ := hr0; exact h
  have HK2 := hid hK2
  clear hr0 hK2
  have f1 := count_any p FF X K0 16 w hr (by omega) (by omega)
  unfold rp at f1 ⊢
  rw [hc] at f1
  obtain ⟨n, hnn⟩ : ∃ n, n = ps.length := ⟨_, rfl⟩
  rw [← hnn] at f1 hn hK
  have Hnn := hid hnn
  have Hf := hid f1
  have HK := hid hK
  have Hrt := hid (fun i t ht => rdt13 (X := X) (K := K) hp hd i t ht)
  have hps : (ps.flatMap tb1).length ≤ X.length := by rw [← hd, List.length_drop]; omega
  clear f1 hc hK hp hd hnn
  go_enter Try.func33, Try.ntmps33
  go_wp2_with (fail)
  refine Hf.out.mono ?_
  rintro e w1 ⟨rfl, hr1, hC1⟩
  simp only [eCt, lenP] at hr1 ⊢
  rw [HK.out] at hr1
  clear Hf hr
  go_wp2_with (refine wp_mkG slBB8 rfl (.tmp 16) (.tmp 16) rfl rfl n rfl rfl (by omega) (by simp only [maxLen]; omega) ?_; intro w9 hp9 hB9; refine wp_stop ?_)
  have hs1 := hC1.size
  have hr9 := hr1.belowR hB9
  have hC9 := hC1.belowR hB9
  obtain ⟨gp, hgp⟩ : ∃ gp, gp = w1.heap.size := ⟨_, rfl⟩
  rw [← hgp] at hp9 ⊢
  have hgw : w.heap.size ≤ gp := by omega
  have hgpp : gp ≠ p := by omega
  obtain ⟨D, hD⟩ : ∃ D : Nat → Prop, D = fun b => w.heap.size ≤ b ∧ b ≠ gp := ⟨_, rfl⟩
  have hDw : ∀ b, D b → w.heap.size ≤ b ∧ b ≠ gp := fun b h => by rw [hD] at h; exact h
  have hwD : ∀ b, gp < b → D b := fun b h => by rw [hD]; exact ⟨by omega, by omega⟩
  clear hD hgp hB9 hr1 hC1
  refine wp_go ?_
  go_wp2
  go_loopw [20] (fun iv wr => ∃ i : Nat, i ≤ n ∧ iv = .int .i64 i ∧ RdR wr p FF X (K + ((ps.take i).flatMap tb1).length) ∧ Hid (∃ us, Blk wr gp 24 (us ++ (List.replicate n (.slice none 0 0)).drop i) ∧ TxX wr D (ps.take i) us ∧ us.length = i) ∧ Ch (only p) w wr) (fun i _ => n - (intOf i).toNat)
  case atStart => exact ⟨0, Nat.zero_le _, rfl, by rw [List.take_zero, List.flatMap_nil]; exact hr9, ⟨[], hp9, by rw [List.take_zero]; exact TxX.nil _ _, rfl⟩, hC9⟩
  case round =>
    clear hr9 hp9 hC9
    obtain ⟨i, hi, rfl, hr, hus, hC⟩ := hrel
    obtain ⟨us, hp, hx, hul⟩ := hus.out
    clear hus
    by_cases hlt : i < n
    · have hI : (i : Int) < (n : Int) := by omega
      obtain ⟨t, ht⟩ : ∃ t, ps[i]? = some t := ⟨_, List.getElem?_eq_getElem (by rw [← Hnn.out]; exact hlt)⟩
      have hgpl := hp.lt
      have hsz := hC.size
      obtain ⟨ht1, ht2⟩ := Hrt.out i t ht
      have hkn : K + ((ps.take i).flatMap tb1).length + (psz t.length + t.length) = K + ((ps.take (i + 1)).flatMap tb1).length := by
        rw [take_snocT ht, List.flatMap_append, List.flatMap_singleton, List.length_append, tb1, List.length_append, length_packed]
        omega
      have Htk := hid (take_snocT ht)
      obtain ⟨k, hk⟩ : ∃ k, k = K + ((ps.take i).flatMap tb1).length := ⟨_, rfl⟩
      rw [← hk] at hr ht1 ht2 hkn
      have hrl : (us ++ (List.replicate n (Value.slice none 0 0)).drop i).length = n := by rw [List.length_append, hul, List.length_drop, List.length_replicate]; omega
      have Hrl := hid hrl
      have Hst := hid (fun v => set_next (Z := List.replicate n (Value.slice none 0 0)) hul (by rw [List.length_replicate]; omega) v : ∀ v, (us ++ (List.replicate n (Value.slice none 0 0)).drop i).set i v = (us ++ [v]) ++ (List.replicate n (Value.slice none 0 0)).drop (i + 1))
      have t1 := text_any p FF X k 65536 wr hr (by omega) (by omega) hX
      unfold rp at t1
      rw [ht1] at t1
      unfold TextPost at t1
      dsimp only at t1
      rw [ht2] at t1
      have Ht := hid t1
      have Hkn := hid hkn
      clear t1 ht1 ht2 hkn hk hrl ht
      go_wp2_with (fail)
      refine Ht.out.mono ?_
      rintro e w4 ⟨v4, rfl, hv4, hr4, hC4⟩
      obtain ⟨A4, c4, rfl⟩ := hv4.shape
      have hp4 := hp.ch hC4 (by intro h; have h' : gp = p := h; omega)
      have hx4 := hx.keep (w' := w4) (F' := D) (fun b hb hF => ⟨hF, hC4.block b hb (by intro h; have h' : b = p := h; have := (hDw b hF).1; omega)⟩)
      have hC4' := hC.trans hC4
      have hs4 := hC4.size
      clear Ht hr hp hx
      go_wp2_with (refine wp_st1 24 (.tmp 30) (.tmp 28) rfl rfl rfl (f := i) rfl (v := .slice A4 t.length c4) rfl hp4 (by rw [Hrl.out]; exact hlt) sizeSl8 rfl rfl ?_; intro w6 hp6 hG6)
      rw [Hst.out] at hp6
      have hx6 := hx4.keep (w' := w6) (F' := D) (fun b hb hF => ⟨hF, hG6.block _ hb (by intro h; injection h with h; exact (hDw b hF).2 h)⟩)
      have hv6 : Rd w6 D (.slice A4 t.length c4) (bys t) := hv4.keep (fun b hb hF => ⟨hwD b (by have h' : wr.heap.size ≤ b := hF; omega), hG6.block _ hb (by intro h; injection h with h; have h' : wr.heap.size ≤ b := hF; omega)⟩)
      have hx7 := hx6.snoc hv6
      rw [← Htk.out] at hx7
      have hr6 : RdR w6 p FF X (K + ((ps.take (i + 1)).flatMap tb1).length) := by
        rw [← Hkn.out]
        obtain ⟨_, hpb, _⟩ := id hr4
        exact RdR.keep hr4 (hG6.block _ (lt_of_block hpb) (by intro h; injection h with h; exact hgpp h.symm)) (fun b hb hF => hG6.block _ hb (by intro h; injection h with h; have := (hFb b hF).2; omega))
      have hC6 := hC4'.grow hG6 (fun k hk => .inr (by injection hk with hk; omega))
      have Hp6 := hid hp6
      have Hr6 := hid hr6
      have Hx7 := hid hx7
      clear hp6 hx6 hv6 hx7 hr6 hp4 hx4 hv4 hr4 hG6 hC4 hC4' hC
      go_wp2
      go_roundw
      case rel => exact ⟨i + 1, by omega, by go_num, Hr6.out, ⟨_, Hp6.out, Hx7.out, by rw [List.length_append, hul]; rfl⟩, hC6⟩
      case measure => simp [intOf]; omega
    · have hi' : i = n := by omega
      subst hi'
      have hI : ¬ (i : Int) < (i : Int) := by omega
      have htk : ps.take i = ps := by rw [Hnn.out, List.take_length]
      rw [htk] at hr hx
      rw [List.drop_of_length_le (by rw [List.length_replicate]; omega), List.append_nil] at hp
      have hres := tx_blk (F := fun b => w.heap.size ≤ b) (c := i) hp hgw (hx.keep (fun b hb hF => ⟨(hDw b hF).1, rfl⟩)) Hnn.out.symm (by simp only [maxLen]; omega)
      have hr6 : RdR wr p F X K2 := by
        rw [← HK2.out]
        obtain ⟨v, hpb, h2, h3, _⟩ := id hr
        exact ⟨v, hpb, h2.weak (fun b _ hF => (hFb b hF).1), h3, hnp⟩
      have Hres := hid hres
      clear hp hx hres hr htk
      go_wp2
      go_ret2
      exact ⟨_, rfl, Hres.out, hr6, hC⟩
set_option maxRecDepth 100000 in
set_option maxHeartbeats 8000000 in
theorem bget13_any (m : Vt) (v : Value) (F : Nat → Prop) (w : World) (he : errV m = 0) (hv : Rd w F v (bys (Vt.by m))) :
    Calls Try.prog 14 #[v] w fun e w' => ∃ ub up, e = .returned (.tuple #[m.val ub up, .int .i64 0]) ∧ Rd w' (fun b => w.heap.size ≤ b) ub (bys m.b) ∧ Rd w' (fun b => w.heap.size ≤ b) up (tx m.ps) ∧ Below w.heap.size w w' := by
  have hpt := err_parts he
  have hsm := err_sm he
  have hln := len_by13 m
  have hX : (Vt.by m).length ≤ 65536 ∧ m.ps.length ≤ 16 := by
    unfold errV at he
    split at he
    · cases he
    · split at he
      · cases he
      · exact ⟨by omega, by omega⟩
  obtain ⟨hX, hps⟩ := hX
  have hpl : ∀ t ∈ m.ps, t.length ≤ 65536 := by
    have hfl : ∀ (ps : List (List UInt8)) (t : List UInt8), t ∈ ps → t.length ≤ (ps.flatMap tb1).length := by
      intro ps
      induction ps with
      | nil => intro t ht; cases ht
      | cons x ps ih =>
        intro t ht
        rw [List.flatMap_cons, List.length_append]
        rcases List.mem_cons.1 ht with rfl | ht
        · unfold tb1; rw [List.length_append]; omega
        · have := ih t ht; omega
    intro t ht
    have := hfl m.ps t ht
    omega
  have hrn := rdn13 hpt
  have hrm := num13_sm hpt
  have hrh := rdh13 m
  have hfm := fun ub up W h1 h2 => formed13_any m ub up (fun b => w.heap.size ≤ b) (fun b => w.heap.size ≤ b) W (vtIn_of hpt) h1 h2
  rw [hpt] at hfm
  have d1 : (Vt.by m).drop 39 = (packed m.b.length ++ m.b) ++ (packed m.ps.length ++ m.ps.flatMap tb1) := by
    unfold Vt.by
    rw [List.append_assoc, List.append_assoc]
    exact List.drop_left' (len_vhd m)
  have d2 : (Vt.by m).drop (39 + (psz m.b.length + m.b.length)) = packed m.ps.length ++ m.ps.flatMap tb1 := by
    rw [← List.drop_drop, d1]
    exact List.drop_left' (by rw [List.length_append, length_packed])
  have d3 : (Vt.by m).drop (39 + (psz m.b.length + m.b.length) + psz m.ps.length) = m.ps.flatMap tb1 := by
    rw [← List.drop_drop, d2]
    exact List.drop_left' (length_packed _)
  have t1 : textR 65536 ((Vt.by m).drop 39) = .ok (m.b.length, psz m.b.length) := by rw [d1]; exact textR_of 65536 m.b _ (by omega) (by omega)
  have t2 : (((Vt.by m).drop 39).drop (psz m.b.length)).take m.b.length = m.b := by rw [d1, List.append_assoc, ← length_packed, List.drop_left, List.take_left]
  have t3 : cntR 16 (readPk ((Vt.by m).drop (39 + (psz m.b.length + m.b.length)))) = .ok (m.ps.length, psz m.ps.length) := by rw [d2]; exact cntR_of 16 _ _ (by omega) (by omega)
  obtain ⟨K0, hK0⟩ : ∃ K, K = 39 + (psz m.b.length + m.b.length) := ⟨_, rfl⟩
  obtain ⟨K1, hK1⟩ : ∃ K, K0 + psz m.ps.length = K := ⟨_, rfl⟩
  rw [← hK0] at t3 d3 hln
  rw [hK1] at d3 hln
  obtain ⟨X, hXe⟩ : ∃ X, X = Vt.by m := ⟨_, rfl⟩
  rw [← hXe] at hv hX hrn hrh t1 t2 t3 d3 hln
  have hwl : ¬ (65536 : Int) < (X.length : Int) := by omega
  have Hrn := hid hrn
  have Hrm := hid hrm
  have Hrh := hid hrh
  have Hfm := hid hfm
  have T1 := hid t1
  have T2 := hid t2
  have T3 := hid t3
  have D3 := hid d3
  have HK0 := hid hK0
  have HK1 := hid hK1
  have Hln := hid hln
  have Hpl := hid hpl
  clear hpt hsm hrn hrm hrh hfm d1 d2 d3 t1 t2 t3 hK0 hK1 hXe he hln hpl
  obtain ⟨AV, cv, rfl⟩ := hv.shape
  have hal1 : Below w.heap.size w (w.alloc (.cells zVl.toArray 27)) := (Below.refl _ _).alloc (Nat.le_refl _) _
  have hz2 := Blk.new' w 27 zVl
  have hv := hv.below hal1
  go_enter Try.func14, Try.ntmps14
  go_wp2_with (refine wp_new 27 rfl rfl zeroV13 ?_; refine wp_stop ?_)
  obtain ⟨w0, hw0⟩ : ∃ x, x = w.alloc (.cells zVl.toArray 27) := ⟨_, rfl⟩
  rw [← hw0] at hz2 hv hal1 ⊢
  clear hw0
  obtain ⟨g2, hg2⟩ : ∃ g, g = w.heap.size := ⟨_, rfl⟩
  rw [← hg2] at hz2 ⊢
  have hgw2 : w.heap.size ≤ g2 := by omega
  have hg2l := hz2.lt
  clear hg2
  refine wp_go ?_
  go_wp2_with (fail)
  refine (new_any _ X F _ hv (by omega)).mono ?_
  rintro e w1 ⟨p, rfl, hpw, hr1, hB1⟩
  have hz2 := hz2.below hB1
  have hB1 := hal1.trans (hB1.mono hal1.size)
  have hpp : w.heap.size ≤ p := Nat.le_trans hal1.size hpw
  have hg2p : g2 ≠ p := by omega
  have hpl1 : p < w1.heap.size := by obtain ⟨_, h, _⟩ := id hr1; exact lt_of_block h
  have hg2l := hz2.lt
  obtain ⟨FR, hFR⟩ : ∃ FR : Nat → Prop, FR = fun b => w0.heap.size ≤ b ∧ b < p := ⟨_, rfl⟩
  rw [← hFR] at hr1
  have hFRw : ∀ b, FR b → w0.heap.size ≤ b ∧ b < p := fun b h => by rw [hFR] at h; exact h
  clear hFR hv hal1
  go_wp2_with (fail)
  have hh := readHead13_any p FR X m w1 hr1 Hrn.out Hrm.out Hrh.out
  unfold rp at hh
  refine hh.mono ?_
  rintro e w2 ⟨rfl, hr2, hC2⟩
  have hz2 := hz2.ch hC2 (by intro h; have h' : g2 = p := h; omega)
  have hs2 := hC2.size
  clear hh hr1
  go_wp2_with (refine wp_newst 27 5 (.tmp 17) rfl rfl rfl rfl rfl rfl zeroV13 (l := m.l (.slice none 0 0) (.slice none 0 0)) rfl (by rw [len_vt, len_zVl]) (by rw [len_vt]; exact sizeVt) one_vt (by simp) ?_; intro w3 hm3 hB3 hs3; refine wp_stop ?_)
  have hz3 := hz2.below hB3
  have hg23 := hz3.lt
  have hr3 := hr2.belowR hB3
  have hC3 := hC2.belowR hB3
  obtain ⟨g5, hg5⟩ : ∃ g, g = w2.heap.size := ⟨_, rfl⟩
  rw [← hg5] at hm3 ⊢
  have hg5w : w1.heap.size ≤ g5 := by omega
  have hg5l := hm3.lt
  clear hg5 hB3 hs3 hz2 hr2 hC2
  refine wp_go ?_
  have tt := text_any p FR X 39 65536 w3 hr3 (by omega) (by omega) (by omega)
  unfold rp at tt
  rw [T1.out] at tt
  unfold TextPost at tt
  dsimp only at tt
  rw [T2.out, ← HK0.out] at tt
  have Ht := hid tt
  clear tt
  go_wp2_with (fail)
  refine Ht.out.mono ?_
  rintro e w4 ⟨v4, rfl, hv4, hr4, hC4⟩
  obtain ⟨A4, c4, rfl⟩ := hv4.shape
  have hz4 := hz3.ch hC4 (by intro h; have h' : g2 = p := h; omega)
  have hm4 := hm3.ch hC4 (by intro h; have h' : g5 = p := h; omega)
  have hs4 := hC4.size
  have hC4 := hC3.trans hC4
  clear Ht hz3 hm3 hr3 hC3
  go_wp2_with (refine wp_st1 24 (.tmp 28) (.tmp 26) rfl rfl rfl (f := 36) rfl (v := .slice A4 m.b.length c4) rfl hm4 (by rw [len_vt]; omega) sizeSl8 rfl rfl ?_; intro w5 hm5 hG5; refine wp_stop ?_)
  rw [set36v] at hm5
  have hne25 : g2 ≠ g5 := by omega
  have hne5p : g5 ≠ p := by omega
  have hz5 := hz4.keep (hG5.block _ hz4.lt (by intro h; injection h with h; exact hne25 h))
  have hr5 : RdR w5 p FR X K0 := by
    obtain ⟨_, hpb, _⟩ := id hr4
    exact RdR.keep hr4 (hG5.block _ (lt_of_block hpb) (by intro h; injection h with h; exact hne5p h.symm)) (fun b hb hF => hG5.block _ hb (by intro h; injection h with h; have := (hFRw b hF).2; omega))
  have hv5 : Rd w5 (fun b => w3.heap.size ≤ b) (.slice A4 m.b.length c4) (bys m.b) := hv4.keep (fun b hb hF => ⟨hF, hG5.block _ hb (by intro h; injection h with h; have h' : w3.heap.size ≤ b := hF; omega)⟩)
  have hs5 := hG5.size
  have hC5 := hC4.grow hG5 (fun k hk => .inr (by injection hk with hk; omega))
  clear hz4 hm4 hr4 hv4 hC4 hG5
  refine wp_go ?_
  have hrt := readTexts13_any p FR X m.ps K0 K1 X.length w5 hr5 (by omega) hps Hpl.out T3.out HK1.out D3.out (by rw [Hln.out])
  unfold rp at hrt
  have Hrt := hid hrt
  clear hrt
  go_wp2_with (fail)
  refine Hrt.out.mono ?_
  rintro e w6 ⟨v6, rfl, hv6, hr6, hC6⟩
  obtain ⟨A6, c6, rfl, _, _⟩ := hv6.slShape
  have hz6 := hz5.ch hC6 (by intro h; have h' : g2 = p := h; omega)
  have hm6 := hm5.ch hC6 (by intro h; have h' : g5 = p := h; omega)
  have hv56 := hv5.ch hC6 (fun b hb h => by have h' : b = p := h; have hb' : w3.heap.size ≤ b := hb; omega)
  have hs6 := hC6.size
  have hC6 := hC5.trans hC6
  clear Hrt hz5 hm5 hr5 hv5 hC5
  go_wp2_with (refine wp_st1 25 (.tmp 38) (.tmp 36) rfl rfl rfl (f := 37) rfl (v := .slice A6 m.ps.length c6) rfl hm6 (by rw [len_vt]; omega) sizeSS8 rfl rfl ?_; intro w7 hm7 hG7; refine wp_stop ?_)
  rw [set37v] at hm7
  have hz7 := hz6.keep (hG7.block _ hz6.lt (by intro h; injection h with h; exact hne25 h))
  have hr7 : RdR w7 p FR X X.length := by
    obtain ⟨_, hpb, _⟩ := id hr6
    exact RdR.keep hr6 (hG7.block _ (lt_of_block hpb) (by intro h; injection h with h; exact hne5p h.symm)) (fun b hb hF => hG7.block _ hb (by intro h; injection h with h; have := (hFRw b hF).2; omega))
  have hv7 : Rd w7 (fun b => w3.heap.size ≤ b) (.slice A4 m.b.length c4) (bys m.b) := hv56.keep (fun b hb hF => ⟨hF, hG7.block _ hb (by intro h; injection h with h; have h' : w3.heap.size ≤ b := hF; omega)⟩)
  have hv77 : Rd w7 (fun b => w3.heap.size ≤ b) (.slice A6 m.ps.length c6) (tx m.ps) := hv6.keep (fun b hb hF => ⟨by have h' : w5.heap.size ≤ b := hF; omega, hG7.block _ hb (by intro h; injection h with h; have h' : w5.heap.size ≤ b := hF; omega)⟩)
  have hC7 := hC6.grow hG7 (fun k hk => .inr (by injection hk with hk; omega))
  clear hz6 hm6 hr6 hv56 hv6 hC6 hG7
  refine wp_go ?_
  have hdn := done_any p FR X X.length w7 hr7
  rw [if_neg (Nat.lt_irrefl _)] at hdn
  unfold rp at hdn
  go_wp2_with (fail)
  refine hdn.mono ?_
  rintro e w8 ⟨rfl, n8, rfl⟩
  have hB8 : Below w7.heap.size w7 (w7.drewN n8) := ((Ch.refl nob w7).drewN n8).below
  have hz8 := hz7.below hB8
  have hm8 := hm7.below hB8
  have hw3w : w.heap.size ≤ w3.heap.size := by have := hB1.size; omega
  have hv8 := hv7.below hB8
  have hv88 := hv77.below hB8
  have hC8 := hC7.belowR hB8
  obtain ⟨wx, hwx⟩ : ∃ wx, wx = w7.drewN n8 := ⟨_, rfl⟩
  rw [← hwx] at hz8 hm8 hv8 hv88 hC8 ⊢
  clear hwx hB8 hdn hr7 hz7 hm7 hv7 hv77 hC7
  go_wp2_with (first | refine wp_ld 27 (.tmp 5) rfl rfl rfl hm8.whole Try.underlying27 rfl (by rw [len_vt]; exact sizeVt) ?_)
  have hff := Hfm.out (.slice A4 m.b.length c4) (.slice A6 m.ps.length c6) wx (hv8.weak (fun b _ h => Nat.le_trans hw3w h)) (hv88.weak (fun b _ h => Nat.le_trans hw3w h))
  unfold Vt.val at hff
  refine hff.mono ?_
  rintro e w9 ⟨rfl, hB9⟩
  have hz9 := hz8.below hB9
  have hm9 := hm8.below hB9
  have hv9 := hv8.below hB9
  have hv99 := hv88.below hB9
  have hC9 := hC8.belowR hB9
  clear hff hz8 hm8 hv8 hv88 hC8 hB9 Hfm
  go_wp2_with (first | refine wp_ld 27 (.tmp 5) rfl rfl rfl hm9.whole Try.underlying27 rfl (by rw [len_vt]; exact sizeVt) ?_ | (refine wp_st 27 (.tmp 2) (.tmp 53) rfl rfl rfl (f := 0) rfl (l := m.l (.slice A4 m.b.length c4) (.slice A6 m.ps.length c6)) rfl hz9 (by rw [len_vt, len_zVl]; omega) (by rw [len_vt]; exact sizeVt) one_vt ?_; intro w10 hz10 hG10; refine wp_stop ?_))
  rw [show zVl.take 0 ++ m.l (.slice A4 m.b.length c4) (.slice A6 m.ps.length c6) ++ zVl.drop (0 + (m.l (.slice A4 m.b.length c4) (.slice A6 m.ps.length c6)).length) = m.l (.slice A4 m.b.length c4) (.slice A6 m.ps.length c6) from by rw [len_vt]; simp [zVl, zs8]] at hz10
  have hk10 : ∀ b, b < w9.heap.size → w3.heap.size ≤ b → w.heap.size ≤ b ∧ w10.heap[b]? = w9.heap[b]? := fun b hb h => ⟨Nat.le_trans hw3w h, hG10.block b hb (fun e => by injection e with e; omega)⟩
  have hv10 := hv9.keep (F' := fun b => w.heap.size ≤ b) (fun b hb h => hk10 b hb h)
  have hv11 := hv99.keep (F' := fun b => w.heap.size ≤ b) (fun b hb h => hk10 b hb h)
  have hB9 : Below w.heap.size w w9 := Ch.below_of hB1 hC9 (fun k h => by have h' : k = p := h; omega) hB1.size
  have hB10 := hB9.grown hG10 hB9.size (fun k hk => by injection hk with hk; omega)
  clear hk10 hG10 hz9 hm9 hv9 hv99 hC9 hB9
  refine wp_go ?_
  go_wp2
  refine ret_cell1 rfl rfl rfl hz10.whole Try.underlying27 rfl (by rw [len_vt]; exact sizeVt) rfl ?_
  exact ⟨_, _, rfl, hv10, hv11, hB10⟩
end Go.Proofs.Ytkoncjcnpconkaa
