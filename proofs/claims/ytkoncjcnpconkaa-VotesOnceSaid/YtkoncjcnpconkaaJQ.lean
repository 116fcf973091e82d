/- JQ: layer 13: VotesOnce, the walk. -/
import Derived.Test.YtkoncjcnpconkaaJO
namespace Go.Proofs.Ytkoncjcnpconkaa
open Go.RowKit Go.V
theorem sizeI13 : (Try.prog.info? 3).map (·.size) = some 1 := by kernel_rfl
theorem sizeB13 : (Try.prog.info? 24).map (·.size) = some 1 := by kernel_rfl
theorem sizeT13 : (Try.prog.info? 25).map (·.size) = some 1 := by kernel_rfl
set_option maxRecDepth 100000 in
set_option maxHeartbeats 8000000 in
theorem votesOnce_law (m : Vt) (h b : List UInt8) (ub up vb : Value) (F1 F2 F3 : Nat → Prop) (w : World) (hm : VtIn m) (hub : Rd w F1 ub (bys m.b)) (hup : Rd w F2 up (tx m.ps)) (hh : h.length = 32) (hvb : Rd w F3 vb (bys b)) :
    Calls Try.prog 6 #[m.val ub up, .agg (bvs h).toArray, vb] w fun e w' => e = .returned (.bool true) ∧ Below w.heap.size w w' := by
  obtain ⟨AB, cb, rfl⟩ := hub.shape
  obtain ⟨AP, cpp, rfl, _, _⟩ := hup.slShape
  obtain ⟨AV, cv, rfl⟩ := hvb.shape
  have hub := hub.weak (F' := fun b => b < w.heap.size) (fun b h _ => h)
  have hup := hup.weak (F' := fun b => b < w.heap.size) (fun b h _ => h)
  have hvb := hvb.weak (F' := fun b => b < w.heap.size) (fun b h _ => h)
  unfold Vt.val
  have hmn := len_vt m (.slice AB m.b.length cb) (.slice AP m.ps.length cpp)
  have hel := vt_mk hub hup
  obtain ⟨l, hl⟩ : ∃ l, l = m.l (.slice AB m.b.length cb) (.slice AP m.ps.length cpp) := ⟨_, rfl⟩
  rw [← hl] at hmn hel ⊢
  have Hmn := hid hmn
  have Hl := hid hl
  clear hl hmn
  have hlh : (bvs h).length = 32 := by simp [bvs, hh]
  have q3 := Blk.new' w 27 l
  obtain ⟨w0, hw0⟩ : ∃ x, x = w.alloc (.cells l.toArray 27) := ⟨_, rfl⟩
  have hsz0 : w0.heap.size = w.heap.size + 1 := by rw [hw0]; simp
  have hB0 : Below w.heap.size w w0 := by rw [hw0]; exact (Below.refl _ _).alloc (Nat.le_refl _) _
  rw [← hw0] at q3
  have q4 := Blk.new' w0 23 (bvs h)
  have hal : Below w0.heap.size w0 (w0.alloc (.cells (bvs h).toArray 23)) := (Below.refl _ _).alloc (Nat.le_refl _) _
  have q3 := q3.below hal
  have hB := hB0.trans (hal.mono hB0.size)
  rw [hsz0] at q4
  have hub := hub.below hB
  have hup := hup.below hB
  have hvb := hvb.below hB
  have Hel := hid (hel.below hB)
  clear hsz0 hB0 hal hel
  subst hw0
  go_enter Try.func6, Try.ntmps6
  go_wp2_with (fail)
  refine (wakes13_any _).mono ?_
  rintro e w1 ⟨rfl, hB1⟩
  have q3 := q3.below hB1
  have q4 := q4.below hB1
  have hub := hub.below hB1
  have hup := hup.below hB1
  have hvb := hvb.below hB1
  have Hel := hid (Hel.out.below hB1)
  have hB := hB.trans (hB1.mono hB.size)
  obtain ⟨g3, hg3⟩ : ∃ g, g = w.heap.size := ⟨_, rfl⟩
  obtain ⟨g4, hg4⟩ : ∃ g, g = w.heap.size + 1 := ⟨_, rfl⟩
  rw [← hg4] at q4 ⊢
  rw [← hg3] at q3 ⊢
  have h3w : w.heap.size ≤ g3 := by omega
  have h34 : g3 < g4 := by omega
  clear hg3 hg4 hB1
  have hal : Below w1.heap.size w1 (w1.alloc (.cells l.toArray 27)) := (Below.refl _ _).alloc (Nat.le_refl _) _
  have hw2 := wds_one (F := fun _ => True) (Blk.new' w1 27 l) ((Hel.out.below hal).keep (fun _ _ _ => ⟨trivial, rfl⟩)) trivial
  go_wp2_with (first | refine wp_ld 27 (.tmp 3) rfl rfl rfl q3.whole Try.underlying27 rfl (by rw [Hmn.out]; exact sizeVt) ?_ | refine wp_bsW (.tmp 14) slV13 rfl rfl (us := l) rfl Hmn.out ?_)
  refine (long13_any [m] _ _ _ hw2).mono ?_
  rintro e w2 ⟨rfl, rfl⟩
  rw [longVs_one]
  have q3 := q3.below hal
  have q4 := q4.below hal
  have hub := hub.below hal
  have hvb := hvb.below hal
  have hB := hB.trans (hal.mono hB.size)
  clear hw2 hup Hel
  obtain ⟨w2, hw2⟩ : ∃ x, x = w1.alloc (.cells l.toArray 27) := ⟨_, rfl⟩
  rw [← hw2] at q3 q4 hub hvb hB ⊢
  clear hw2 hal
  cases hlg : longV m with
  | true =>
    go_wp2
    go_ret
    exact ⟨rfl, hB⟩
  | false =>
    by_cases hbl : 500 < b.length
    · have hI : (500 : Int) < (b.length : Int) := by omega
      go_wp2
      go_ret
      exact ⟨rfl, hB⟩
    have hI : ¬ (500 : Int) < (b.length : Int) := by omega
    have hbl : b.length ≤ 500 := by omega
    have Hlg := hid hlg
    have hlm := long_wr hlg
    have hte := take_wr hlg
    clear hlg
    go_wp2_with (first | (refine wp_st1 3 (.tmp 22) (.const (.int .i64 2)) rfl rfl rfl (f := 0) rfl (v := .int .i64 2) rfl q3 (by rw [Hmn.out]; omega) sizeI13 rfl rfl ?_; intro w3 hq3 hG3; refine wp_stop ?_))
    have hq3 : Blk w3 g3 27 (({ m with k := 2 } : Vt).l (.slice AB m.b.length cb) (.slice AP m.ps.length cpp)) := by
      have := hq3
      rw [Hl.out, set_k _ _ _ rfl] at this
      exact this
    have hmn3 := len_vt ({ m with k := 2 } : Vt) (.slice AB m.b.length cb) (.slice AP m.ps.length cpp)
    have Hmn3 := hid hmn3
    clear hmn3
    have q4 := q4.keep (hG3.block _ q4.lt (by intro e; injection e with e; omega))
    have hub := hub.keep (fun b hb hF => ⟨hF, hG3.block _ hb (by intro e; injection e with e; have h' : b < w.heap.size := hF; omega)⟩)
    have hvb := hvb.keep (fun b hb hF => ⟨hF, hG3.block _ hb (by intro e; injection e with e; have h' : b < w.heap.size := hF; omega)⟩)
    have hB := hB.grown hG3 hB.size (by intro k hk; injection hk with hk; omega)
    clear q3 hG3 Hmn
    refine wp_go ?_
    go_wp2_with (first | (refine wp_st1 25 (.tmp 23) (.const (.slice none 0 0)) rfl rfl rfl (f := 37) rfl (v := .slice none 0 0) rfl hq3 (by rw [Hmn3.out]; omega) sizeT13 rfl rfl ?_; intro w4 hq4 hG4; refine wp_stop ?_))
    have q3 : Blk w4 g3 27 ((wrV m).l (.slice AB m.b.length cb) (.slice none 0 0)) := by
      have := hq4
      rw [set_ps] at this
      exact this
    have q4 := q4.keep (hG4.block _ q4.lt (by intro e; injection e with e; omega))
    have hub := hub.keep (fun b hb hF => ⟨hF, hG4.block _ hb (by intro e; injection e with e; have h' : b < w.heap.size := hF; omega)⟩)
    have hvb := hvb.keep (fun b hb hF => ⟨hF, hG4.block _ hb (by intro e; injection e with e; have h' : b < w.heap.size := hF; omega)⟩)
    have hB := hB.grown hG4 hB.size (by intro k hk; injection hk with hk; omega)
    clear hq3 hq4 hG4 Hmn3
    have hmn := len_vt (wrV m) (.slice AB m.b.length cb) (.slice none 0 0)
    obtain ⟨ls, hls⟩ : ∃ ls, ls = (wrV m).l (.slice AB m.b.length cb) (.slice none 0 0) := ⟨_, rfl⟩
    have hvi : VtIn (wrV m) := ⟨by constructor <;> show _ ≤ _ <;> simp [wrV], hm.v, hm.r, hm.s⟩
    have htb := fun (k : Value) (M F : Nat → Prop) (W : World) (h : BX W k M F []) (h1 : Rd W (fun b => b < w.heap.size) (.slice AB m.b.length cb) (bys m.b)) (h2 : Rd W (fun b => b < w.heap.size) (.slice none 0 0) (tx (wrV m).ps)) (hG : ∀ b, b < w.heap.size → ¬ M b) => btake13_any k M F (fun b => b < w.heap.size) [] (wrV m) _ _ W h (by simp) hvi (VtSm.of hlm) h1 h2 hG
    have hpt := fun (W : World) (F1 F2) (h1 : Rd W F1 (.slice AB m.b.length cb) (bys m.b)) (h2 : Rd W F2 (.slice none 0 0) (tx (wrV m).ps)) => parts13_any (wrV m) (.slice AB m.b.length cb) (.slice none 0 0) F1 F2 W h1 h2
    have hsm := fun (u v : Value) F1 F2 F3 F4 W h1 h2 h3 h4 => same13_any (wrV m) u v (.slice AB m.b.length cb) (.slice none 0 0) F1 F2 F3 F4 W h1 h2 h3 h4 (by show 0 ≤ _; omega)
    unfold Vt.val at htb hpt hsm
    have e1 : ls[1]? = some (.int .i64 m.v) := by rw [hls]; rfl
    have e2 : ls[2]? = some (.int .i64 m.r) := by rw [hls]; rfl
    have ho1 : ∀ v ∈ ls, v.oneCell' = true := by rw [hls]; exact one_vt
    rw [← hls] at q3 hmn htb hpt hsm
    rw [hte] at htb
    have Hls := hid hls
    have Hmn := hid hmn
    have Htb := hid htb
    have Hpt := hid hpt
    have Hsm := hid hsm
    clear hls hmn htb hpt hsm hte hvi hlm Hl
    refine wp_go ?_
    have h3l := q3.lt
    have h4l := q4.lt
    have hws := hB.size
    go_wp2_with (fail)
    refine (bnew13_any _).mono ?_
    rintro e w5 ⟨kv, M, F, rfl, hI, hB5, hM5⟩
    obtain ⟨xk, rfl⟩ := hI.ptr
    have q3 := q3.below hB5
    have q4 := q4.below hB5
    have hub := hub.below hB5
    have hvb := hvb.below hB5
    have hB := hB.trans (hB5.mono hB.size)
    have hMw : ∀ b, M b → w4.heap.size ≤ b := fun b h => hM5 b (.inl h)
    have hMn : ∀ b, b < w.heap.size → ¬ M b := fun b hb h => by have := hMw b h; omega
    have h3M : ¬ M g3 := fun h => by have := hMw g3 h; omega
    have h4M : ¬ M g4 := fun h => by have := hMw g4 h; omega
    have hs45 := hB5.size
    clear hB5 hM5
    go_wp2_with (refine wp_ld 27 (.tmp 3) rfl rfl rfl q3.whole Try.underlying27 rfl (by rw [Hmn.out]; exact sizeVt) ?_)
    refine (Htb.out _ M F _ hI hub (Rd.nil _ _) hMn).mono ?_
    rintro e w6 ⟨rfl, hp⟩
    obtain ⟨M6, F6, hI6, hC6, hM6, _⟩ := hp
    have q3 := q3.ch hC6 h3M
    have q4 := q4.ch hC6 h4M
    have hub := hub.keep (fun b hb hF => ⟨hF, hC6.block b hb (hMn b hF)⟩)
    have hvb := hvb.keep (fun b hb hF => ⟨hF, hC6.block b hb (hMn b hF)⟩)
    have hB6 : Below w.heap.size w w6 := ⟨hC6.os.trans hB.os, hC6.tape.trans hB.tape, hC6.output.trans hB.output, Nat.le_trans hB.size hC6.size, fun k hk => (hC6.block k (by have := hB.size; omega) (hMn k hk)).trans (hB.block k hk)⟩
    have hM6w : ∀ b, M6 b → w4.heap.size ≤ b := fun b h => (hM6 b h).elim (hMw b) (fun e => by omega)
    have hs46 : w4.heap.size ≤ w6.heap.size := Nat.le_trans hs45 hC6.size
    cases hpv : partsV (wrV m) with
    | false =>
      rw [if_neg (by simp)]
      clear hI hI6 hC6 hM6 q4 hvb Htb Hsm
      go_wp2_with (refine wp_ld 27 (.tmp 3) rfl rfl rfl q3.whole Try.underlying27 rfl (by rw [Hmn.out]; exact sizeVt) ?_)
      refine (Hpt.out _ _ _ hub (Rd.nil _ (fun _ => True))).mono ?_
      rw [hpv]
      rintro e w7 ⟨rfl, hB7⟩
      go_wp2
      go_ret
      exact ⟨rfl, hB6.trans (hB7.mono hB6.size)⟩
    | true =>
      have hto := take_ot (m := m) (h := h) (b := b) (hh := hh) hbl hpv
      have hwo := wrote_ot (m := m) (h := h) (b := b) (hh := hh) hpv
      have hol := long_ot (m := m) (h := h) (b := b) (hh := hh) hbl
      have hoi := vtIn_of (parts_ot (m := m) (h := h) (b := b) (hh := hh) hpv)
      rw [if_pos rfl]
      have hI6 : BX w6 (.pointer (some ⟨xk, 0, none⟩)) M6 F6 [wrV m] := by have h6 := hI6; rw [hpv] at h6; exact h6
      clear hpv Htb Hpt hI hC6 hM6 hB
      go_wp2_with (first | refine wp_ld 27 (.tmp 3) rfl rfl rfl q3.whole Try.underlying27 rfl (by rw [Hmn.out]; exact sizeVt) ?_ | (refine wp_newst 27 8 (.tmp 32) rfl rfl rfl rfl rfl rfl zeroV13 (l := ls) rfl (by rw [Hmn.out]; exact len_zVl) (by rw [Hmn.out]; exact sizeVt) ho1 (by simp [Act.put]) ?_; intro w7 q8 hB7 hs7; refine wp_stop ?_))
      obtain ⟨g8, hg8⟩ : ∃ g, g = w6.heap.size := ⟨_, rfl⟩
      have h8a : w4.heap.size ≤ g8 := by have := hs46; omega
      have h8M : ¬ M6 g8 ∧ ¬ F6 g8 := ⟨fun h => by have := hI6.bd g8 (.inl h); omega, fun h => by have := hI6.bd g8 (.inr h); omega⟩
      rw [← hg8] at q8 ⊢
      clear hg8 hs7
      have q3 := q3.below hB7
      have q4 := q4.below hB7
      have hub := hub.below hB7
      have hvb := hvb.below hB7
      have hI7 := hI6.below hB7
      have hB := hB6.trans (hB7.mono hB6.size)
      clear hI6 hB6 hB7
      refine wp_go ?_
      go_wp2_with (first | refine wp_ld 23 (.tmp 4) rfl rfl rfl q4.whole Try.underlying23 rfl (by rw [hlh]; exact size25) ?_ | (refine wp_st 23 (.tmp 35) (.tmp 33) rfl rfl rfl (f := 4) rfl (l := bvs h) rfl q8 (by rw [hlh, Hmn.out]; omega) (by rw [hlh]; exact size25) (oneCell_bvs _) ?_; intro w8 hq8 hG8; refine wp_stop ?_))
      have q8 : Blk w8 g8 27 ((otV m h b hh).l (.slice AB m.b.length cb) (.slice none 0 0)) := by
        have := hq8
        rw [Hls.out, splice_h (b := b) hh] at this
        exact this
      have hk8 : ∀ y, y < w7.heap.size → y ≠ g8 → w8.heap[y]? = w7.heap[y]? := fun y hy hne => hG8.block y hy (by intro e; injection e with e; exact hne e)
      have q3 := q3.keep (hk8 _ q3.lt (by omega))
      have q4 := q4.keep (hk8 _ q4.lt (by omega))
      have hub := hub.keep (fun b hb hF => ⟨hF, hk8 b hb (by have h' : b < w.heap.size := hF; omega)⟩)
      have hvb := hvb.keep (fun b hb hF => ⟨hF, hk8 b hb (by have h' : b < w.heap.size := hF; omega)⟩)
      have hI8 := hI7.keep (w' := w8) (fun b hb hmf => hk8 b hb (fun e => by subst e; exact hmf.elim h8M.1 h8M.2)) hG8.size
      have hB := hB.grown hG8 hB.size (by intro k hk; injection hk with hk; omega)
      have hmo := len_vt (otV m h b hh) (.slice AB m.b.length cb) (.slice none 0 0)
      have Hmo := hid hmo
      clear hq8 hG8 hk8 hI7 hmo
      refine wp_go ?_
      go_wp2_with (first | (refine wp_st1 24 (.tmp 36) (.tmp 34) rfl rfl rfl (f := 36) rfl (v := .slice AV b.length cv) rfl q8 (by rw [Hmo.out]; omega) sizeB13 rfl rfl ?_; intro w9 hq9 hG9; refine wp_stop ?_))
      have q8 : Blk w9 g8 27 ((otV m h b hh).l (.slice AV b.length cv) (.slice none 0 0)) := by
        have := hq9
        rw [set_b] at this
        exact this
      have hk9 : ∀ y, y < w8.heap.size → y ≠ g8 → w9.heap[y]? = w8.heap[y]? := fun y hy hne => hG9.block y hy (by intro e; injection e with e; exact hne e)
      have q3 := q3.keep (hk9 _ q3.lt (by omega))
      have hub := hub.keep (fun b hb hF => ⟨hF, hk9 b hb (by have h' : b < w.heap.size := hF; omega)⟩)
      have hvb := hvb.keep (fun b hb hF => ⟨hF, hk9 b hb (by have h' : b < w.heap.size := hF; omega)⟩)
      have hI9 := hI8.keep (w' := w9) (fun b hb hmf => hk9 b hb (fun e => by subst e; exact hmf.elim h8M.1 h8M.2)) hG9.size
      have hB := hB.grown hG9 hB.size (by intro k hk; injection hk with hk; omega)
      clear hq9 hG9 hk9 hI8 q4 Hmo
      have hmo := len_vt (otV m h b hh) (.slice AV b.length cv) (.slice none 0 0)
      have htb := fun (W : World) (h1 : BX W (.pointer (some ⟨xk, 0, none⟩)) M6 F6 [wrV m]) (h2 : Rd W (fun b => b < w.heap.size) (.slice AV b.length cv) (bys (otV m h b hh).b)) (h3 : Rd W (fun b => b < w.heap.size) (.slice none 0 0) (tx (otV m h b hh).ps)) => btake13_any _ M6 F6 (fun b => b < w.heap.size) [wrV m] (otV m h b hh) _ _ W h1 (by simp) hoi (VtSm.of hol) h2 h3 (fun b hb hm => by have := hM6w b hm; have h' : b < w.heap.size := hb; omega)
      have hwb := fun (M F : Nat → Prop) (W : World) (h1 : BX W (.pointer (some ⟨xk, 0, none⟩)) M F ([wrV m] ++ [otV m h b hh])) => bwrote13_any _ M F ([wrV m] ++ [otV m h b hh]) m.v m.r W h1 hm.v hm.r
      rw [hto, if_pos rfl] at htb
      rw [hwo] at hwb
      unfold Vt.val at htb hwb
      obtain ⟨lo, hlo⟩ : ∃ lo, lo = (otV m h b hh).l (.slice AV b.length cv) (.slice none 0 0) := ⟨_, rfl⟩
      rw [← hlo] at q8 hmo htb
      have Hmo := hid hmo
      have Htb := hid htb
      have Hwb := hid hwb
      clear hlo hmo htb hwb hto hwo hoi hol
      refine wp_go ?_
      go_wp2_with (refine wp_ld 27 (.tmp 8) rfl rfl rfl q8.whole Try.underlying27 rfl (by rw [Hmo.out]; exact sizeVt) ?_)
      refine (Htb.out _ hI9 hvb (Rd.nil _ _)).mono ?_
      rintro e w10 ⟨rfl, hp⟩
      obtain ⟨M10, F10, hI10, hC10, _, _⟩ := hp
      have h3M6 : ¬ M6 g3 := fun h => by have := hM6w g3 h; omega
      have hMn6 : ∀ b, b < w.heap.size → ¬ M6 b := fun b hb h => by have := hM6w b h; omega
      have q3 := q3.ch hC10 h3M6
      have hub := hub.keep (fun b hb hF => ⟨hF, hC10.block b hb (hMn6 b hF)⟩)
      have hB : Below w.heap.size w w10 := ⟨hC10.os.trans hB.os, hC10.tape.trans hB.tape, hC10.output.trans hB.output, Nat.le_trans hB.size hC10.size, fun k hk => (hC10.block k (by have := hB.size; omega) (hMn6 k hk)).trans (hB.block k hk)⟩
      have c1 := q3.cellAt 1 _ e1
      have c2 := q3.cellAt 2 _ e2
      clear hC10 hI9 q8 hvb Htb Hmo
      go_wp2_with (fail)
      refine (Hwb.out _ _ _ hI10).mono ?_
      rintro e w11 ⟨u1, p1, rfl, hu1, hp1, hB11⟩
      have hu1 : Rd w11 (fun b => w10.heap.size ≤ b) u1 (bys (wrV m).b) := hu1
      have hp1 : Rd w11 (fun b => w10.heap.size ≤ b) p1 (tx (wrV m).ps) := hp1
      obtain ⟨A1, d1, rfl⟩ := hu1.shape
      obtain ⟨B1, e1', rfl, _, _⟩ := hp1.slShape
      have q3 := q3.below hB11
      have hub := hub.below hB11
      have hB := hB.trans (hB11.mono hB.size)
      have hm1 := len_vt (wrV m) (.slice A1 (wrV m).b.length d1) (.slice B1 (wrV m).ps.length e1')
      have hsm := fun F1 F2 F3 F4 W h1 h2 h3 h4 => Hsm.out (.slice A1 (wrV m).b.length d1) (.slice B1 (wrV m).ps.length e1') F1 F2 F3 F4 W h1 h2 h3 h4
      show _
      obtain ⟨l1, hl1⟩ : ∃ l1, l1 = (wrV m).l (.slice A1 (wrV m).b.length d1) (.slice B1 (wrV m).ps.length e1') := ⟨_, rfl⟩
      have ho2 : ∀ v ∈ l1, v.oneCell' = true := by rw [hl1]; exact one_vt
      simp only [Option.getD_some, Option.isSome_some]
      rw [← hl1] at hm1 hsm ⊢
      have Hm1 := hid hm1
      have Hs1 := hid hsm
      clear hl1 hm1 hsm Hsm Hwb hI10 hB11 c1 c2
      go_wp2_with (refine wp_newst 27 10 (.tmp 47) rfl rfl rfl rfl rfl rfl zeroV13 (l := l1) rfl (by rw [Hm1.out]; exact len_zVl) (by rw [Hm1.out]; exact sizeVt) ho2 (by simp) ?_; intro w12 q10 hB12 hs12; refine wp_stop ?_)
      obtain ⟨g10, hg10⟩ : ∃ g, g = w11.heap.size := ⟨_, rfl⟩
      rw [← hg10] at q10 ⊢
      clear hg10 hs12
      have q3 := q3.below hB12
      have hub := hub.below hB12
      have hu1 := hu1.below hB12
      have hp1 := hp1.below hB12
      have hB := hB.trans (hB12.mono hB.size)
      clear hB12
      refine wp_go ?_
      go_wp2_with (first | (refine wp_ldg 27 (.tmp 10) (by rfl) rfl rfl q10.whole Try.underlying27 rfl (by rw [Hm1.out]; exact sizeVt) ?_) | (refine wp_ldg 27 (.tmp 3) (by rfl) rfl rfl q3.whole Try.underlying27 rfl (by rw [Hmn.out]; exact sizeVt) ?_))
      refine (Hs1.out _ _ _ _ _ hu1 hp1 hub (Rd.nil _ (fun _ => True))).mono ?_
      rintro e w13 ⟨rfl, hB13⟩
      go_wp2
      go_ret
      exact ⟨rfl, hB.trans (hB13.mono hB.size)⟩
end Go.Proofs.Ytkoncjcnpconkaa
