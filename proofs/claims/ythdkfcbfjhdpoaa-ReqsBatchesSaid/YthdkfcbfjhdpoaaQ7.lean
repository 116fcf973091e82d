/- Q7: layer 7: a request read: contract of Get, over the bytes of a request that is formed. -/
import Derived.Test.YthdkfcbfjhdpoaaQ6
namespace Go.V
open Go.RowKit
section
variable {P : Program} {w : World} {ops : Array Oper} {rest : List Oper} {o1 o2 : Oper} {a : Act} {Q : Exit → Act → World → Prop}
/-- a new variable of a struct's type, and its value stored at once -/
theorem wp_newst (t : TypeId) (d : Nat) (y : Operand) (hg1 : o1.guard = none) (hg2 : o2.guard = none) (ho1 : o1.op = .alloc t) (hd1 : o1.dst = some d) (ho2 : o2.op = .store t (.tmp d) y) (hd2 : o2.dst = none)
    {z l : List Value} (hz : (P.info? t).map (·.zero) = some (some (.agg z.toArray))) (hy : (a.put (some d) (.pointer (some ⟨w.heap.size, 0, none⟩))).eval y = .agg l.toArray) (hzl : z.length = l.length) (hi : (P.info? t).map (·.size) = some l.length) (h1 : ∀ v ∈ l, v.oneCell' = true) (hsz : d < a.tmps.size)
    (h : ∀ w', Blk w' w.heap.size t l → Below w.heap.size w w' → w.heap.size < w'.heap.size → wpList P ops Q rest (a.put (some d) (.pointer (some ⟨w.heap.size, 0, none⟩))) w') : wpList P ops Q (o1 :: o2 :: rest) a w := by
  refine wp_new t hg1 ho1 hz ?_
  rw [hd1]
  have hb := Blk.new' w t z
  refine wp_st t (.tmp d) y hg2 ho2 hd2 (b := w.heap.size) (f := 0) (by simp [Act.eval, Act.put, hsz]) (l := l) hy hb (by omega) hi h1 ?_
  intro w' hb' hG
  rw [List.take_zero, List.nil_append, List.drop_of_length_le (by omega), List.append_nil] at hb'
  exact h w' hb' (((Below.refl _ _).alloc (Nat.le_refl _) _).grown hG (by simp) (by intro k hk; injection hk with hk; omega)) hb'.lt
end
end Go.V
namespace Go.Proofs.Ythdkfcbfjhdpoaa
open Go.RowKit Go.V
theorem textR_of (most : Int) (t R : List UInt8) (h : (t.length : Int) ≤ most) (hl : t.length < 18446744073709551616) : textR most ((packed t.length ++ t) ++ R) = .ok (t.length, psz t.length) := by
  unfold textR
  rw [List.append_assoc, readPk_packed _ _ hl]
  have hc : cntR most (.ok (t.length, psz t.length)) = .ok (t.length, psz t.length) := if_neg (by omega)
  rw [hc]
  dsimp only
  rw [if_neg (by simp only [List.length_append, length_packed]; omega)]
theorem zeroQ : (Try.prog.info? 26).map (·.zero) = some (some (.agg zQ.toArray)) := by kernel_rfl
theorem sizeSl7 : (Try.prog.info? 24).map (·.size) = some 1 := by kernel_rfl
theorem oneQ (r : Rq) (A : Option Addr) (n c : Nat) : ∀ v ∈ r.l (.slice A n c), v.oneCell' = true := by
  intro v hv; simp [Rq.l] at hv; rcases hv with rfl | rfl | rfl | rfl | rfl | rfl | rfl <;> rfl
theorem Rd.shapeS {w : World} {F : Nat → Prop} {v : Value} {b : List UInt8} (h : Rd w F v (bys b)) : ∃ A c, v = .slice A b.length c := h.shape
set_option maxRecDepth 100000 in
set_option maxHeartbeats 2000000 in
theorem get7_any (v : Value) (r : Rq) (F : Nat → Prop) (w : World) (hv : Rd w F v (bys r.bt)) (ha : in64 r.a) (hb : in64 r.b) (hf : r.fm = true) :
    Calls Try.prog 11 #[v] w fun e w' => ∃ u, e = .returned (.tuple #[r.v u, .int .i64 0]) ∧ Rd w' (fun b => w.heap.size ≤ b) u (bys r.g) ∧ Below w.heap.size w w' := by
  have hrt := fun v F w h => readText_any v r F w h ha hb hf
  have hfm := fun u F W h => formed_any r u F W h
  rw [hf] at hfm
  have hg1 : r.g.length ≤ 1000 := by obtain ⟨_, _, _, _, _, _, _, _, _, _, _, _, _, h⟩ := fm_bd hf; exact h
  have hlt := len_text r
  have hbt : r.bt = (packed r.text.length ++ r.text) ++ (packed r.g.length ++ r.g) := rfl
  have hlb := len_bt r
  obtain ⟨T, hT⟩ : ∃ T, T = r.text := ⟨_, rfl⟩
  obtain ⟨X, hX⟩ : ∃ X, X = r.bt := ⟨_, rfl⟩
  rw [← hT] at hbt hrt hlt
  rw [← hX] at hbt hv hlb
  clear hT hX hf
  have hx1 : textR 100 (X.drop 0) = .ok (T.length, psz T.length) := by rw [List.drop_zero, hbt]; exact textR_of 100 T _ (by omega) (by omega)
  have hx2 : ((X.drop 0).drop (psz T.length)).take T.length = T := by rw [List.drop_zero, hbt, List.append_assoc, ← length_packed, List.drop_left, List.take_left]
  have hd : X.drop (0 + (psz T.length + T.length)) = (packed r.g.length ++ r.g) ++ [] := by
    rw [Nat.zero_add, hbt, ← length_packed, ← List.length_append, List.drop_left, List.append_nil]
  have hx3 : textR 1000 (X.drop (0 + (psz T.length + T.length))) = .ok (r.g.length, psz r.g.length) := by rw [hd]; exact textR_of 1000 r.g [] (by omega) (by omega)
  have hx4 : ((X.drop (0 + (psz T.length + T.length))).drop (psz r.g.length)).take r.g.length = r.g := by rw [hd, List.append_nil, ← length_packed, List.drop_left, List.take_length]
  have hXl : X.length = 0 + (psz T.length + T.length) + (psz r.g.length + r.g.length) := by rw [hbt]; simp only [List.length_append, length_packed]; omega
  have Hx1 := hid hx1
  have Hx2 := hid hx2
  have Hx3 := hid hx3
  have Hx4 := hid hx4
  have HXl := hid hXl
  clear hx1 hx2 hx3 hx4 hXl hbt hd
  obtain ⟨A, cp, rfl⟩ := hv.shape
  unfold Rq.v at hrt hfm ⊢
  have hB : Below w.heap.size w (w.alloc (.cells #[.int .i64 0, .int .i64 0, .int .i64 0, .int .i64 0, .int .i64 0, .int .i64 0, .slice none 0 0] 26)) := (Below.refl _ _).alloc (Nat.le_refl _) _
  have hz := Blk.new' w 26 zQ
  have hbr := hv.below hB
  go_enter Try.func11, Try.ntmps11
  go_wp2_with (fail)
  obtain ⟨w0, hw0⟩ : ∃ w0, w0 = w.alloc (.cells #[.int .i64 0, .int .i64 0, .int .i64 0, .int .i64 0, .int .i64 0, .int .i64 0, .slice none 0 0] 26) := ⟨_, rfl⟩
  have hz : Blk w0 w.heap.size 26 zQ := by rw [hw0]; exact hz
  rw [← hw0] at hB hbr ⊢
  clear hw0
  obtain ⟨g0, hg0⟩ : ∃ g, g = w.heap.size := ⟨_, rfl⟩
  rw [← hg0] at hz ⊢
  have hgw : w.heap.size ≤ g0 := by omega
  clear hg0
  refine (new_any _ X F _ hbr (by omega)).mono ?_
  rintro e w1 ⟨p, rfl, hp, hr1, hB1⟩
  have hB1' : Below w.heap.size w w1 := hB.trans (hB1.mono hB.size)
  have hz1 := hz.below hB1
  have hgl := hz.lt
  have hpw : w.heap.size ≤ p := by have := hB.size; omega
  have hpl : p < w1.heap.size := by obtain ⟨_, h, _⟩ := hr1; exact lt_of_block h
  obtain ⟨FF, hFF⟩ : ∃ FF, FF = fun b => w0.heap.size ≤ b ∧ b < p := ⟨_, rfl⟩
  rw [← hFF] at hr1
  have hFp : ∀ b, FF b → b < p := fun b h => by rw [hFF] at h; exact h.2
  clear hFF hz hbr hB hB1
  have t1 := text_any p FF X 0 100 w1 hr1 (by omega) (by omega) (by omega)
  rw [Hx1.out] at t1
  unfold TextPost at t1
  dsimp only at t1
  rw [Hx2.out] at t1
  have Ht := hid t1
  clear t1
  go_wp2_with (fail)
  refine Ht.out.mono ?_
  rintro e w2 ⟨v2, rfl, hv2, hr2, hC2⟩
  have hz2 := hz1.ch hC2 (by intro h; have h' : g0 = p := h; omega)
  have hB2 := Ch.below_of hB1' hC2 (fun k hk => by have : k = p := hk; omega) hB1'.size
  clear Ht hr1 hz1
  go_wp2_with (fail)
  refine (hrt _ _ _ hv2).mono ?_
  rintro e w3 ⟨rfl, hB3⟩
  have hr3 := hr2.belowR hB3
  have hz3 := hz2.below hB3
  have hB3' := hB2.trans (hB3.mono hB2.size)
  clear hrt hr2 hz2 hv2
  go_wp2_with (refine wp_newst 26 7 (.tmp 23) rfl rfl rfl rfl rfl rfl zeroQ (l := r.l (.slice none 0 0)) rfl rfl sizeQ (oneQ r _ _ _) (by simp) ?_; intro w4 hq4 hB4 hs4; refine wp_stop ?_)
  have hr4 := hr3.belowR hB4
  have hz4 := hz3.below hB4
  have hB4' := hB3'.trans (hB4.mono hB3'.size)
  have hpl4 : p < w3.heap.size := by obtain ⟨_, h, _⟩ := hr3; exact lt_of_block h
  have hgl4 := hz3.lt
  obtain ⟨gq, hgq⟩ : ∃ g, g = w3.heap.size := ⟨_, rfl⟩
  rw [← hgq] at hq4 ⊢
  rw [← hgq] at hs4 hpl4 hgl4
  have hgwq : w.heap.size ≤ gq := by omega
  clear hgq hr3 hz3 hB4
  have t1 := text_any p FF X _ 1000 w4 hr4 (by omega) (by omega) (by omega)
  rw [Hx3.out] at t1
  unfold TextPost at t1
  dsimp only at t1
  rw [Hx4.out, ← HXl.out] at t1
  have Ht := hid t1
  clear t1 hr4
  refine wp_go ?_
  go_wp2_with (fail)
  refine Ht.out.mono ?_
  rintro e w5 ⟨v5, rfl, hv5, hr5, hC5⟩
  obtain ⟨A5, c5, rfl⟩ := hv5.shape
  have hz5 := hz4.ch hC5 (by intro h; have h' : g0 = p := h; omega)
  have hq5 := hq4.ch hC5 (by intro h; have h' : gq = p := h; omega)
  have hB5 := Ch.below_of hB4' hC5 (fun k hk => by have : k = p := hk; omega) hB4'.size
  clear Ht hz4 hq4
  go_wp2_with (refine wp_st1 24 (.tmp 34) (.tmp 32) rfl rfl rfl (f := 6) rfl (v := .slice A5 r.g.length c5) rfl hq5 (by simp [Rq.l]) sizeSl7 rfl rfl ?_; intro w6 hq6 hG6; refine wp_stop ?_)
  have hq6 : Blk w6 gq 26 (r.l (.slice A5 r.g.length c5)) := hq6
  have hz6 := hz5.keep (hG6.block _ hz5.lt (by intro h; injection h with h; omega))
  have hr6 : RdR w6 p FF X X.length := by
    obtain ⟨_, hpb, _⟩ := id hr5
    exact RdR.keep hr5 (hG6.block _ (lt_of_block hpb) (by intro h; injection h with h; omega)) (fun b hb hF => hG6.block _ hb (by intro h; injection h with h; have := hFp b hF; omega))
  have hv6 : Rd w6 (fun b => w4.heap.size ≤ b) (.slice A5 r.g.length c5) (bys r.g) := hv5.keep (fun b hb hF => ⟨hF, hG6.block _ hb (by intro h; injection h with h; omega)⟩)
  have hB6 := hB5.grown hG6 hB5.size (by intro k hk; injection hk with hk; omega)
  clear hz5 hr5 hv5 hq5 hG6
  have f1 := done_any p _ X _ _ hr6
  rw [if_neg (Nat.lt_irrefl _)] at f1
  have Hf := hid f1
  clear f1 hr6
  refine wp_go ?_
  go_wp2_with (fail)
  refine Hf.out.mono ?_
  rintro e _ ⟨rfl, nn, rfl⟩
  have hz7 := hz6.drewN nn
  have hq7 := hq6.drewN nn
  have hv7 := hv6.ext ((Ch.refl nob w6).drewN nn)
  have hB7 := below_drewN hB6 nn
  obtain ⟨w7, hw7⟩ : ∃ x, x = w6.drewN nn := ⟨_, rfl⟩
  rw [← hw7] at hz7 hq7 hv7 hB7 ⊢
  clear hw7 hz6 hq6 hv6 hB6 Hf
  have e0 := hq7.cellAt 0 _ rfl
  have e1 := hq7.cellAt 1 _ rfl
  have e2 := hq7.cellAt 2 _ rfl
  have e3 := hq7.cellAt 3 _ rfl
  have e4 := hq7.cellAt 4 _ rfl
  have e5 := hq7.cellAt 5 _ rfl
  have e6 := hq7.cellAt 6 _ rfl
  go_wp2_with (fail)
  refine (hfm _ _ _ hv7).mono ?_
  rintro e w8 ⟨rfl, hB8⟩
  have hz8 := hz7.below hB8
  have hq8 := hq7.below hB8
  have hv8 := hv7.below hB8
  have hB8' := hB7.trans (hB8.mono hB7.size)
  clear e0 e1 e2 e3 e4 e5 e6 hz7 hq7 hv7 hfm
  have e0 := hq8.cellAt 0 _ rfl
  have e1 := hq8.cellAt 1 _ rfl
  have e2 := hq8.cellAt 2 _ rfl
  have e3 := hq8.cellAt 3 _ rfl
  have e4 := hq8.cellAt 4 _ rfl
  have e5 := hq8.cellAt 5 _ rfl
  have e6 := hq8.cellAt 6 _ rfl
  go_wp2_with (refine wp_st 26 (.tmp 2) (.tmp 49) rfl rfl rfl (f := 0) rfl (l := r.l (.slice A5 r.g.length c5)) rfl hz8 (by simp [zQ, Rq.l]) sizeQ (oneQ r _ _ _) ?_; intro w9 hd9 hG9; refine wp_stop ?_)
  refine wp_go ?_
  go_wp2
  refine ret_cell1 rfl rfl rfl hd9.whole Try.underlying26 rfl sizeQ rfl ?_
  refine ⟨.slice A5 r.g.length c5, rfl, hv8.keep (fun b hb hF => ⟨by have := hB4'.size; omega, hG9.block _ hb (by intro h; injection h with h; omega)⟩), hB8'.grown hG9 hB8'.size (by intro k hk; injection hk with hk; omega)⟩
end Go.Proofs.Ythdkfcbfjhdpoaa
