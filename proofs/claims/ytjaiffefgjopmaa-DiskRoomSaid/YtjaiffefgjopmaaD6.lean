/- D6: layer 10: the document's Do, case by case. -/
import Derived.Test.YtjaiffefgjopmaaD5
namespace Go.V
open Go.RowKit
def dkG (p : Nat) (r : Option Nat) : Nat → Prop := fun b => b = p ∨ r = some b
end Go.V
namespace Go.Proofs.Ytjaiffefgjopmaa
open Go.RowKit Go.V
theorem sizePlan10 : (Try.prog.info? 32).map (·.size) = some 3 := by kernel_rfl
theorem RX.below {w w' : World} {p : Nat} {r : Option Nat} {N : Nat → Prop} {d : Dk} (h : RX w p r N d) (hB : Below w.heap.size w w') : RX w' p r N d := by
  obtain ⟨vs, vp, xs, hb, hvs, ho, hx, hr, hrp⟩ := h
  exact ⟨vs, vp, xs, hb.below hB, hvs.below hB, own_bel ho hB, hx.keep (fun b hb2 hF => ⟨hF, hB.block b hb2⟩), hr, hrp⟩
theorem RX.lt {w : World} {p : Nat} {r : Option Nat} {N : Nat → Prop} {d : Dk} (h : RX w p r N d) : p < w.heap.size := by
  obtain ⟨vs, vp, xs, hb, hvs, ho, hx, hr, hrp⟩ := h
  exact hb.lt
theorem RX.row {w : World} {p : Nat} {r : Option Nat} {N : Nat → Prop} {d : Dk} (h : RX w p r N d) : ∀ b, r = some b → b < w.heap.size := by
  obtain ⟨vs, vp, xs, hb, hvs, ho, hx, hr, hrp⟩ := h
  intro b e
  exact (ho.lt b (by rw [hr]; exact e)).2
/-- what an act leaves: the disk, its error -/
def DoP (w : World) (p : Nat) (r : Option Nat) (N : Nat → Prop) (R : Dk × Int) (e : Ending) (w' : World) : Prop :=
  ∃ r', e = .returned (.int .i64 R.2) ∧ RX w' p r' N R.1 ∧ Ch (dkG p r) w w' ∧ ∀ b, r' = some b → r = some b ∨ w.heap.size ≤ b
set_option maxRecDepth 100000 in
set_option maxHeartbeats 4000000 in
theorem do_copy (p : Nat) (r : Option Nat) (N : Nat → Prop) (d : Dk) (a : Ac) (va : Value) (w : World) (h : RX w p r N d) (hs : DkSm d) (hN : ∀ b, N b → b < w.heap.size) (hva : Rd w (dkF p r N) va (bys a.b)) (hk : a.k = 6) :
    Calls Try.prog 15 #[.pointer (some ⟨p, 0, none⟩), .agg (a.l va).toArray] w (DoP w p r N (d, 0)) := by
  obtain ⟨Aa, ca, rfl⟩ := hva.shape
  have hab := Blk.new' w 34 (a.l (.slice Aa a.b.length ca))
  have hB : Below w.heap.size w (w.alloc (.cells (a.l (.slice Aa a.b.length ca)).toArray 34)) := (Below.refl _ _).alloc (Nat.le_refl _) _
  have hX := h.below hB
  have hva1 := hva.below hB
  have hpl := h.lt
  have hrl := h.row
  clear h hva
  go_enter Try.func15, Try.ntmps15
  go_wp2_with (fail)
  obtain ⟨w1, hw1⟩ : ∃ x, x = w.alloc (.cells (a.l (.slice Aa a.b.length ca)).toArray 34) := ⟨_, rfl⟩
  rw [← hw1] at hab hB hX hva1 ⊢
  clear hw1
  have hN1 : ∀ b, N b → b < w1.heap.size := fun b h => by have := hN b h; have := hB.size; omega
  obtain ⟨gb, hgb⟩ : ∃ g, g = w.heap.size := ⟨_, rfl⟩
  rw [← hgb] at hab ⊢
  have hgbp : gb ≠ p := by omega
  have hgw : w.heap.size ≤ gb := by omega
  clear hgb
  refine (now_any p r N d _ hX hs hN1).mono ?_
  rintro e w2 ⟨v2, rfl, hl2, hB2⟩
  obtain ⟨L, hL⟩ : ∃ L, L = nowF d := ⟨_, rfl⟩
  rw [← hL] at hl2
  have HL := hid hL
  clear hL
  obtain ⟨Al, cl, rfl, _, _⟩ := wds_shape hl2
  have hX2 := hX.below hB2
  have hab2 := hab.below hB2
  have hva2 := hva1.below hB2
  have hBB := hB.trans (hB2.mono hB.size)
  clear hX hab hva1 hB2 hB
  have k0 := hab2.cellAt 0 _ rfl
  have k1 := hab2.cellAt 1 _ rfl
  have k2 := hab2.cellAt 2 _ rfl
  have k3 := hab2.cellAt 3 _ rfl
  have k4 := hab2.cellAt 4 _ rfl
  have k5 := hab2.cellAt 5 _ rfl
  have k6 := hab2.cellAt 6 _ rfl
  have k7 := hab2.cellAt 7 _ rfl
  have e4 : (a.k == 4) = false := by rw [beq_eq_false_iff_ne]; omega
  have e5 : (a.k == 5) = false := by rw [beq_eq_false_iff_ne]; omega
  have e6 : (a.k == 6) = true := by rw [hk]; rfl
  go_wp2
  go_ret
  exact ⟨r, rfl, hX2, (Ch.refl _ _).belowR hBB, fun b h => .inl h⟩
set_option maxRecDepth 100000 in
set_option maxHeartbeats 4000000 in
theorem do_crash (p : Nat) (r : Option Nat) (N : Nat → Prop) (d : Dk) (a : Ac) (va : Value) (w : World) (h : RX w p r N d) (hs : DkSm d) (hN : ∀ b, N b → b < w.heap.size) (hva : Rd w (dkF p r N) va (bys a.b)) (hk : a.k = 5) (hkp : a.keep < 18446744073709551616) (hct : -9223372036854775808 ≤ a.cut ∧ a.cut ≤ 9223372036854775807) :
    Calls Try.prog 15 #[.pointer (some ⟨p, 0, none⟩), .agg (a.l va).toArray] w (DoP w p r N (crashF d a.keep a.torn a.cut, 0)) := by
  obtain ⟨Aa, ca, rfl⟩ := hva.shape
  have hab := Blk.new' w 34 (a.l (.slice Aa a.b.length ca))
  have hB : Below w.heap.size w (w.alloc (.cells (a.l (.slice Aa a.b.length ca)).toArray 34)) := (Below.refl _ _).alloc (Nat.le_refl _) _
  have hX := h.below hB
  have hva1 := hva.below hB
  have hpl := h.lt
  have hrl := h.row
  clear h hva
  go_enter Try.func15, Try.ntmps15
  go_wp2_with (fail)
  obtain ⟨w1, hw1⟩ : ∃ x, x = w.alloc (.cells (a.l (.slice Aa a.b.length ca)).toArray 34) := ⟨_, rfl⟩
  rw [← hw1] at hab hB hX hva1 ⊢
  clear hw1
  have hN1 : ∀ b, N b → b < w1.heap.size := fun b h => by have := hN b h; have := hB.size; omega
  obtain ⟨gb, hgb⟩ : ∃ g, g = w.heap.size := ⟨_, rfl⟩
  rw [← hgb] at hab ⊢
  have hgbp : gb ≠ p := by omega
  have hgw : w.heap.size ≤ gb := by omega
  clear hgb
  refine (now_any p r N d _ hX hs hN1).mono ?_
  rintro e w2 ⟨v2, rfl, hl2, hB2⟩
  obtain ⟨L, hL⟩ : ∃ L, L = nowF d := ⟨_, rfl⟩
  rw [← hL] at hl2
  have HL := hid hL
  clear hL
  obtain ⟨Al, cl, rfl, _, _⟩ := wds_shape hl2
  have hX2 := hX.below hB2
  have hab2 := hab.below hB2
  have hva2 := hva1.below hB2
  have hBB := hB.trans (hB2.mono hB.size)
  clear hX hab hva1 hB2 hB
  have k0 := hab2.cellAt 0 _ rfl
  have k1 := hab2.cellAt 1 _ rfl
  have k2 := hab2.cellAt 2 _ rfl
  have k3 := hab2.cellAt 3 _ rfl
  have k4 := hab2.cellAt 4 _ rfl
  have k5 := hab2.cellAt 5 _ rfl
  have k6 := hab2.cellAt 6 _ rfl
  have k7 := hab2.cellAt 7 _ rfl
  have e4 : (a.k == 4) = false := by rw [beq_eq_false_iff_ne]; omega
  have e5 : (a.k == 5) = true := by rw [hk]; rfl
  have hN2 : ∀ b, N b → b < w2.heap.size := fun b h => by have := hN b h; have := hBB.size; omega
  have hrg := hab2.range 4 [.int .u64 (a.keep : Int), .int .i64 a.torn, .int .i64 a.cut] (fun j v hv => by
    match j with
    | 0 => simpa [Ac.l] using hv
    | 1 => simpa [Ac.l] using hv
    | 2 => simpa [Ac.l] using hv
    | j + 3 => simp at hv)
  go_wp2_with (refine wp_ld 32 (.tmp 28) rfl rfl rfl hrg Try.underlying32 rfl sizePlan10 ?_)
  refine (crash_any p r N d a.keep a.torn a.cut _ hX2 hs hN2 hkp hct).mono ?_
  rintro e w3 ⟨rfl, hX3, hC3⟩
  have hC := ((Ch.refl (dkG p r) w).belowR hBB).trans (hC3.weaken (fun k _ h => .inl h))
  go_wp2
  go_ret
  exact ⟨none, rfl, hX3, hC, fun b h => by cases h⟩
set_option maxRecDepth 100000 in
set_option maxHeartbeats 4000000 in
theorem do_fuse0 (p : Nat) (r : Option Nat) (N : Nat → Prop) (d : Dk) (a : Ac) (va : Value) (w : World) (h : RX w p r N d) (hs : DkSm d) (hN : ∀ b, N b → b < w.heap.size) (hva : Rd w (dkF p r N) va (bys a.b)) (hk : a.k = 7) (hd : d.down = true) :
    Calls Try.prog 15 #[.pointer (some ⟨p, 0, none⟩), .agg (a.l va).toArray] w (DoP w p r N (d, 0)) := by
  obtain ⟨Aa, ca, rfl⟩ := hva.shape
  have hab := Blk.new' w 34 (a.l (.slice Aa a.b.length ca))
  have hB : Below w.heap.size w (w.alloc (.cells (a.l (.slice Aa a.b.length ca)).toArray 34)) := (Below.refl _ _).alloc (Nat.le_refl _) _
  have hX := h.below hB
  have hva1 := hva.below hB
  have hpl := h.lt
  have hrl := h.row
  clear h hva
  go_enter Try.func15, Try.ntmps15
  go_wp2_with (fail)
  obtain ⟨w1, hw1⟩ : ∃ x, x = w.alloc (.cells (a.l (.slice Aa a.b.length ca)).toArray 34) := ⟨_, rfl⟩
  rw [← hw1] at hab hB hX hva1 ⊢
  clear hw1
  have hN1 : ∀ b, N b → b < w1.heap.size := fun b h => by have := hN b h; have := hB.size; omega
  obtain ⟨gb, hgb⟩ : ∃ g, g = w.heap.size := ⟨_, rfl⟩
  rw [← hgb] at hab ⊢
  have hgbp : gb ≠ p := by omega
  have hgw : w.heap.size ≤ gb := by omega
  clear hgb
  refine (now_any p r N d _ hX hs hN1).mono ?_
  rintro e w2 ⟨v2, rfl, hl2, hB2⟩
  obtain ⟨L, hL⟩ : ∃ L, L = nowF d := ⟨_, rfl⟩
  rw [← hL] at hl2
  have HL := hid hL
  clear hL
  obtain ⟨Al, cl, rfl, _, _⟩ := wds_shape hl2
  have hX2 := hX.below hB2
  have hab2 := hab.below hB2
  have hva2 := hva1.below hB2
  have hBB := hB.trans (hB2.mono hB.size)
  clear hX hab hva1 hB2 hB
  have k0 := hab2.cellAt 0 _ rfl
  have k1 := hab2.cellAt 1 _ rfl
  have k2 := hab2.cellAt 2 _ rfl
  have k3 := hab2.cellAt 3 _ rfl
  have k4 := hab2.cellAt 4 _ rfl
  have k5 := hab2.cellAt 5 _ rfl
  have k6 := hab2.cellAt 6 _ rfl
  have k7 := hab2.cellAt 7 _ rfl
  have e4 : (a.k == 4) = false := by rw [beq_eq_false_iff_ne]; omega
  have e5 : (a.k == 5) = false := by rw [beq_eq_false_iff_ne]; omega
  have e6 : (a.k == 6) = false := by rw [beq_eq_false_iff_ne]; omega
  have e7 : (a.k == 7) = true := by rw [hk]; rfl
  have hX3 := hX2
  obtain ⟨vs, vp, xs, hb, hvs, ho, hx, hr, hrp⟩ := hX2
  have c4 := hb.cellAt 4 _ rfl
  rw [hd] at c4
  go_wp2
  go_ret
  exact ⟨r, rfl, hX3, (Ch.refl _ _).belowR hBB, fun b h => .inl h⟩
set_option maxRecDepth 100000 in
set_option maxHeartbeats 4000000 in
theorem do_fuse (p : Nat) (r : Option Nat) (N : Nat → Prop) (d : Dk) (a : Ac) (va : Value) (w : World) (h : RX w p r N d) (hs : DkSm d) (hN : ∀ b, N b → b < w.heap.size) (hva : Rd w (dkF p r N) va (bys a.b)) (hk : a.k = 7) (hd : d.down = false) :
    Calls Try.prog 15 #[.pointer (some ⟨p, 0, none⟩), .agg (a.l va).toArray] w (DoP w p r N ({ d with fuse := a.m }, 0)) := by
  obtain ⟨Aa, ca, rfl⟩ := hva.shape
  have hab := Blk.new' w 34 (a.l (.slice Aa a.b.length ca))
  have hB : Below w.heap.size w (w.alloc (.cells (a.l (.slice Aa a.b.length ca)).toArray 34)) := (Below.refl _ _).alloc (Nat.le_refl _) _
  have hX := h.below hB
  have hva1 := hva.below hB
  have hpl := h.lt
  have hrl := h.row
  clear h hva
  go_enter Try.func15, Try.ntmps15
  go_wp2_with (fail)
  obtain ⟨w1, hw1⟩ : ∃ x, x = w.alloc (.cells (a.l (.slice Aa a.b.length ca)).toArray 34) := ⟨_, rfl⟩
  rw [← hw1] at hab hB hX hva1 ⊢
  clear hw1
  have hN1 : ∀ b, N b → b < w1.heap.size := fun b h => by have := hN b h; have := hB.size; omega
  obtain ⟨gb, hgb⟩ : ∃ g, g = w.heap.size := ⟨_, rfl⟩
  rw [← hgb] at hab ⊢
  have hgbp : gb ≠ p := by omega
  have hgw : w.heap.size ≤ gb := by omega
  clear hgb
  refine (now_any p r N d _ hX hs hN1).mono ?_
  rintro e w2 ⟨v2, rfl, hl2, hB2⟩
  obtain ⟨L, hL⟩ : ∃ L, L = nowF d := ⟨_, rfl⟩
  rw [← hL] at hl2
  have HL := hid hL
  clear hL
  obtain ⟨Al, cl, rfl, _, _⟩ := wds_shape hl2
  have hX2 := hX.below hB2
  have hab2 := hab.below hB2
  have hva2 := hva1.below hB2
  have hBB := hB.trans (hB2.mono hB.size)
  clear hX hab hva1 hB2 hB
  have k0 := hab2.cellAt 0 _ rfl
  have k1 := hab2.cellAt 1 _ rfl
  have k2 := hab2.cellAt 2 _ rfl
  have k3 := hab2.cellAt 3 _ rfl
  have k4 := hab2.cellAt 4 _ rfl
  have k5 := hab2.cellAt 5 _ rfl
  have k6 := hab2.cellAt 6 _ rfl
  have k7 := hab2.cellAt 7 _ rfl
  have e4 : (a.k == 4) = false := by rw [beq_eq_false_iff_ne]; omega
  have e5 : (a.k == 5) = false := by rw [beq_eq_false_iff_ne]; omega
  have e6 : (a.k == 6) = false := by rw [beq_eq_false_iff_ne]; omega
  have e7 : (a.k == 7) = true := by rw [hk]; rfl
  obtain ⟨vs, vp, xs, hb, hvs, ho, hx, hr, hrp⟩ := hX2
  have c4 := hb.cellAt 4 _ rfl
  rw [hd] at c4
  go_wp2_with (refine wp_st1 3 (.tmp 44) (.tmp 42) rfl rfl rfl (f := 3) rfl (v := .int .i64 a.m) rfl hb (by simp [Dk.l]) sizeI10 rfl rfl ?_; intro w3 hb3 hG3; refine wp_stop ?_)
  have hk4 : ∀ q, q < w2.heap.size → dkF p r N q → dkF p r N q ∧ w3.heap[q]? = w2.heap[q]? := fun q hq hF => ⟨hF, hG3.block q hq (by intro e; injection e with e; exact hF.1 e)⟩
  have hX3 : RX w3 p r N { d with fuse := a.m } := ⟨vs, vp, xs, hb3, hvs.keep hk4, own_keep10 ho (fun k hk2 he => hG3.block k hk2 (by intro e; rw [he] at hr; exact hrp (by rw [← hr, ← e]))), hx.keep hk4, hr, hrp⟩
  have hC := ((Ch.refl (dkG p r) w).belowR hBB).grow hG3 (fun k hk => .inl (.inl (by injection hk with hk; exact hk.symm)))
  clear hb hvs ho hx c4 hG3 hk4
  refine wp_go ?_
  go_wp2
  go_ret
  exact ⟨r, rfl, hX3, hC, fun b h => .inl h⟩
set_option maxRecDepth 100000 in
set_option maxHeartbeats 4000000 in
theorem do_sync0 (p : Nat) (r : Option Nat) (N : Nat → Prop) (d : Dk) (a : Ac) (va : Value) (w : World) (h : RX w p r N d) (hs : DkSm d) (hN : ∀ b, N b → b < w.heap.size) (hva : Rd w (dkF p r N) va (bys a.b)) (hk : a.k = 4) (hbn : (burnF d).2 = false) :
    Calls Try.prog 15 #[.pointer (some ⟨p, 0, none⟩), .agg (a.l va).toArray] w (DoP w p r N ((burnF d).1, 0)) := by
  obtain ⟨Aa, ca, rfl⟩ := hva.shape
  have hab := Blk.new' w 34 (a.l (.slice Aa a.b.length ca))
  have hB : Below w.heap.size w (w.alloc (.cells (a.l (.slice Aa a.b.length ca)).toArray 34)) := (Below.refl _ _).alloc (Nat.le_refl _) _
  have hX := h.below hB
  have hva1 := hva.below hB
  have hpl := h.lt
  have hrl := h.row
  clear h hva
  go_enter Try.func15, Try.ntmps15
  go_wp2_with (fail)
  obtain ⟨w1, hw1⟩ : ∃ x, x = w.alloc (.cells (a.l (.slice Aa a.b.length ca)).toArray 34) := ⟨_, rfl⟩
  rw [← hw1] at hab hB hX hva1 ⊢
  clear hw1
  have hN1 : ∀ b, N b → b < w1.heap.size := fun b h => by have := hN b h; have := hB.size; omega
  obtain ⟨gb, hgb⟩ : ∃ g, g = w.heap.size := ⟨_, rfl⟩
  rw [← hgb] at hab ⊢
  have hgbp : gb ≠ p := by omega
  have hgw : w.heap.size ≤ gb := by omega
  clear hgb
  refine (now_any p r N d _ hX hs hN1).mono ?_
  rintro e w2 ⟨v2, rfl, hl2, hB2⟩
  obtain ⟨L, hL⟩ : ∃ L, L = nowF d := ⟨_, rfl⟩
  rw [← hL] at hl2
  have HL := hid hL
  clear hL
  obtain ⟨Al, cl, rfl, _, _⟩ := wds_shape hl2
  have hX2 := hX.below hB2
  have hab2 := hab.below hB2
  have hva2 := hva1.below hB2
  have hBB := hB.trans (hB2.mono hB.size)
  clear hX hab hva1 hB2 hB
  have k0 := hab2.cellAt 0 _ rfl
  have k1 := hab2.cellAt 1 _ rfl
  have k2 := hab2.cellAt 2 _ rfl
  have k3 := hab2.cellAt 3 _ rfl
  have k4 := hab2.cellAt 4 _ rfl
  have k5 := hab2.cellAt 5 _ rfl
  have k6 := hab2.cellAt 6 _ rfl
  have k7 := hab2.cellAt 7 _ rfl
  have e4 : (a.k == 4) = true := by rw [hk]; rfl
  go_wp2_with (fail)
  refine (burn_any p r N d _ hX2 hs.f).mono ?_
  rintro e w3 ⟨rfl, hX3, hC3⟩
  obtain ⟨B, hBu⟩ : ∃ B, B = burnF d := ⟨_, rfl⟩
  rw [← hBu] at hX3 hbn ⊢
  have hBp : B.1.pend = d.pend := by rw [hBu]; rfl
  have hBs : B.1.syn = d.syn := by rw [hBu]; rfl
  have Hbu := hid hBu
  clear hBu
  rw [hbn]
  have hC := ((Ch.refl (dkG p r) w).belowR hBB).trans (hC3.weaken (fun k _ h => .inl h))
  go_wp2
  go_ret
  exact ⟨r, rfl, by rw [← Hbu.out]; exact hX3, hC, fun b h => .inl h⟩
set_option maxRecDepth 100000 in
set_option maxHeartbeats 4000000 in
theorem do_sync (p : Nat) (r : Option Nat) (N : Nat → Prop) (d : Dk) (a : Ac) (va : Value) (w : World) (h : RX w p r N d) (hs : DkSm d) (hN : ∀ b, N b → b < w.heap.size) (hva : Rd w (dkF p r N) va (bys a.b)) (hk : a.k = 4) (hbn : (burnF d).2 = true) :
    Calls Try.prog 15 #[.pointer (some ⟨p, 0, none⟩), .agg (a.l va).toArray] w (DoP w p r N ({ (burnF d).1 with syn := nowF d, pend := [] }, 0)) := by
  obtain ⟨Aa, ca, rfl⟩ := hva.shape
  have hab := Blk.new' w 34 (a.l (.slice Aa a.b.length ca))
  have hB : Below w.heap.size w (w.alloc (.cells (a.l (.slice Aa a.b.length ca)).toArray 34)) := (Below.refl _ _).alloc (Nat.le_refl _) _
  have hX := h.below hB
  have hva1 := hva.below hB
  have hpl := h.lt
  have hrl := h.row
  clear h hva
  go_enter Try.func15, Try.ntmps15
  go_wp2_with (fail)
  obtain ⟨w1, hw1⟩ : ∃ x, x = w.alloc (.cells (a.l (.slice Aa a.b.length ca)).toArray 34) := ⟨_, rfl⟩
  rw [← hw1] at hab hB hX hva1 ⊢
  clear hw1
  have hN1 : ∀ b, N b → b < w1.heap.size := fun b h => by have := hN b h; have := hB.size; omega
  obtain ⟨gb, hgb⟩ : ∃ g, g = w.heap.size := ⟨_, rfl⟩
  rw [← hgb] at hab ⊢
  have hgbp : gb ≠ p := by omega
  have hgw : w.heap.size ≤ gb := by omega
  clear hgb
  refine (now_any p r N d _ hX hs hN1).mono ?_
  rintro e w2 ⟨v2, rfl, hl2, hB2⟩
  obtain ⟨L, hL⟩ : ∃ L, L = nowF d := ⟨_, rfl⟩
  rw [← hL] at hl2 ⊢
  have HL := hid hL
  clear hL
  obtain ⟨Al, cl, rfl, _, _⟩ := wds_shape hl2
  have hX2 := hX.below hB2
  have hab2 := hab.below hB2
  have hva2 := hva1.below hB2
  have hBB := hB.trans (hB2.mono hB.size)
  clear hX hab hva1 hB2 hB
  have k0 := hab2.cellAt 0 _ rfl
  have k1 := hab2.cellAt 1 _ rfl
  have k2 := hab2.cellAt 2 _ rfl
  have k3 := hab2.cellAt 3 _ rfl
  have k4 := hab2.cellAt 4 _ rfl
  have k5 := hab2.cellAt 5 _ rfl
  have k6 := hab2.cellAt 6 _ rfl
  have k7 := hab2.cellAt 7 _ rfl
  have e4 : (a.k == 4) = true := by rw [hk]; rfl
  go_wp2_with (fail)
  refine (burn_any p r N d _ hX2 hs.f).mono ?_
  rintro e w3 ⟨rfl, hX3, hC3⟩
  obtain ⟨B, hBu⟩ : ∃ B, B = burnF d := ⟨_, rfl⟩
  rw [← hBu] at hX3 hbn ⊢
  have hBp : B.1.pend = d.pend := by rw [hBu]; rfl
  have hBs : B.1.syn = d.syn := by rw [hBu]; rfl
  have Hbu := hid hBu
  clear hBu
  rw [hbn]
  have hC := ((Ch.refl (dkG p r) w).belowR hBB).trans (hC3.weaken (fun k _ h => .inl h))
  obtain ⟨vs, vp, xs, hb, hvs, ho, hx, hr, hrp⟩ := hX3
  have hkk : ∀ q, q < w2.heap.size → dkF p r N q → dkF p r N q ∧ w3.heap[q]? = w2.heap[q]? := fun q hq hF => ⟨hF, hC3.block q hq (fun h => hF.1 h)⟩
  have hl3 := hl2.keep hkk
  go_wp2_with (refine wp_st1 40 (.tmp 21) (.tmp 19) rfl rfl rfl (f := 1) rfl (v := .slice Al L.length cl) rfl hb (by simp [Dk.l]) sizeSl10 rfl rfl ?_; intro w4 hb4 hG4; refine wp_stop ?_)
  have hk4 : ∀ q, q < w3.heap.size → dkF p r N q → dkF p none N q ∧ w4.heap[q]? = w3.heap[q]? := fun q hq hF => ⟨⟨hF.1, by simp, hF.2.2⟩, hG4.block q hq (by intro e; injection e with e; exact hF.1 e)⟩
  have hl4 := hl3.keep hk4
  have hC4 := hC.grow hG4 (fun k hk => .inl (.inl (by injection hk with hk; exact hk.symm)))
  refine wp_go ?_
  go_wp2_with (refine wp_st1 22 (.tmp 24) (.const (.slice none 0 0)) rfl rfl rfl (f := 2) rfl (v := .slice none 0 0) rfl hb4 (by simp [Dk.l]) sizeAl10 rfl rfl ?_; intro w5 hb5 hG5; refine wp_stop ?_)
  have hk5 : ∀ q, q < w4.heap.size → dkF p none N q → dkF p none N q ∧ w5.heap[q]? = w4.heap[q]? := fun q hq hF => ⟨hF, hG5.block q hq (by intro e; injection e with e; exact hF.1 e)⟩
  have hl5 := hl4.keep hk5
  have hC5 := hC4.grow hG5 (fun k hk => .inl (.inl (by injection hk with hk; exact hk.symm)))
  have hX5 : RX w5 p none N { B.1 with syn := L, pend := [] } := ⟨_, .slice none 0 0, [], hb5, hl5, World.ownsRow_nil _ _ _ _, rfl, rfl, by simp⟩
  clear hb hvs ho hx hl2 hl3 hl4 hl5 hb4 hb5 hG4 hG5 hk4 hk5 hkk
  refine wp_go ?_
  go_wp2
  go_ret
  exact ⟨none, rfl, by rw [← Hbu.out, ← HL.out]; exact hX5, hC5, fun b h => by cases h⟩
set_option maxRecDepth 100000 in
set_option maxHeartbeats 4000000 in
theorem do_down (p : Nat) (r : Option Nat) (N : Nat → Prop) (d : Dk) (a : Ac) (va : Value) (w : World) (h : RX w p r N d) (hs : DkSm d) (hN : ∀ b, N b → b < w.heap.size) (hva : Rd w (dkF p r N) va (bys a.b)) (hk : a.k ≠ 4 ∧ a.k ≠ 5 ∧ a.k ≠ 6 ∧ a.k ≠ 7) (hd : d.down = true) :
    Calls Try.prog 15 #[.pointer (some ⟨p, 0, none⟩), .agg (a.l va).toArray] w (DoP w p r N (d, 14)) := by
  obtain ⟨Aa, ca, rfl⟩ := hva.shape
  have hab := Blk.new' w 34 (a.l (.slice Aa a.b.length ca))
  have hB : Below w.heap.size w (w.alloc (.cells (a.l (.slice Aa a.b.length ca)).toArray 34)) := (Below.refl _ _).alloc (Nat.le_refl _) _
  have hX := h.below hB
  have hva1 := hva.below hB
  have hpl := h.lt
  have hrl := h.row
  clear h hva
  go_enter Try.func15, Try.ntmps15
  go_wp2_with (fail)
  obtain ⟨w1, hw1⟩ : ∃ x, x = w.alloc (.cells (a.l (.slice Aa a.b.length ca)).toArray 34) := ⟨_, rfl⟩
  rw [← hw1] at hab hB hX hva1 ⊢
  clear hw1
  have hN1 : ∀ b, N b → b < w1.heap.size := fun b h => by have := hN b h; have := hB.size; omega
  obtain ⟨gb, hgb⟩ : ∃ g, g = w.heap.size := ⟨_, rfl⟩
  rw [← hgb] at hab ⊢
  have hgbp : gb ≠ p := by omega
  have hgw : w.heap.size ≤ gb := by omega
  clear hgb
  refine (now_any p r N d _ hX hs hN1).mono ?_
  rintro e w2 ⟨v2, rfl, hl2, hB2⟩
  obtain ⟨L, hL⟩ : ∃ L, L = nowF d := ⟨_, rfl⟩
  rw [← hL] at hl2
  have HL := hid hL
  clear hL
  obtain ⟨Al, cl, rfl, _, _⟩ := wds_shape hl2
  have hX2 := hX.below hB2
  have hab2 := hab.below hB2
  have hva2 := hva1.below hB2
  have hBB := hB.trans (hB2.mono hB.size)
  clear hX hab hva1 hB2 hB
  have k0 := hab2.cellAt 0 _ rfl
  have k1 := hab2.cellAt 1 _ rfl
  have k2 := hab2.cellAt 2 _ rfl
  have k3 := hab2.cellAt 3 _ rfl
  have k4 := hab2.cellAt 4 _ rfl
  have k5 := hab2.cellAt 5 _ rfl
  have k6 := hab2.cellAt 6 _ rfl
  have k7 := hab2.cellAt 7 _ rfl
  have e4 : (a.k == 4) = false := by rw [beq_eq_false_iff_ne]; omega
  have e5 : (a.k == 5) = false := by rw [beq_eq_false_iff_ne]; omega
  have e6 : (a.k == 6) = false := by rw [beq_eq_false_iff_ne]; omega
  have e7 : (a.k == 7) = false := by rw [beq_eq_false_iff_ne]; omega
  have hX3 := hX2
  obtain ⟨vs, vp, xs, hb, hvs, ho, hx, hr, hrp⟩ := hX2
  have c4 := hb.cellAt 4 _ rfl
  rw [hd] at c4
  go_wp2
  go_ret
  exact ⟨r, rfl, hX3, (Ch.refl _ _).belowR hBB, fun b h => .inl h⟩
set_option maxRecDepth 100000 in
set_option maxHeartbeats 4000000 in
theorem do_name (p : Nat) (r : Option Nat) (N : Nat → Prop) (d : Dk) (a : Ac) (va : Value) (w : World) (h : RX w p r N d) (hs : DkSm d) (hN : ∀ b, N b → b < w.heap.size) (hva : Rd w (dkF p r N) va (bys a.b)) (hk : a.k ≠ 4 ∧ a.k ≠ 5 ∧ a.k ≠ 6 ∧ a.k ≠ 7) (hd : d.down = false) (hn : namF a.n = false) :
    Calls Try.prog 15 #[.pointer (some ⟨p, 0, none⟩), .agg (a.l va).toArray] w (DoP w p r N (d, 15)) := by
  obtain ⟨Aa, ca, rfl⟩ := hva.shape
  have hab := Blk.new' w 34 (a.l (.slice Aa a.b.length ca))
  have hB : Below w.heap.size w (w.alloc (.cells (a.l (.slice Aa a.b.length ca)).toArray 34)) := (Below.refl _ _).alloc (Nat.le_refl _) _
  have hX := h.below hB
  have hva1 := hva.below hB
  have hpl := h.lt
  have hrl := h.row
  clear h hva
  go_enter Try.func15, Try.ntmps15
  go_wp2_with (fail)
  obtain ⟨w1, hw1⟩ : ∃ x, x = w.alloc (.cells (a.l (.slice Aa a.b.length ca)).toArray 34) := ⟨_, rfl⟩
  rw [← hw1] at hab hB hX hva1 ⊢
  clear hw1
  have hN1 : ∀ b, N b → b < w1.heap.size := fun b h => by have := hN b h; have := hB.size; omega
  obtain ⟨gb, hgb⟩ : ∃ g, g = w.heap.size := ⟨_, rfl⟩
  rw [← hgb] at hab ⊢
  have hgbp : gb ≠ p := by omega
  have hgw : w.heap.size ≤ gb := by omega
  clear hgb
  refine (now_any p r N d _ hX hs hN1).mono ?_
  rintro e w2 ⟨v2, rfl, hl2, hB2⟩
  obtain ⟨L, hL⟩ : ∃ L, L = nowF d := ⟨_, rfl⟩
  rw [← hL] at hl2
  have HL := hid hL
  clear hL
  obtain ⟨Al, cl, rfl, _, _⟩ := wds_shape hl2
  have hX2 := hX.below hB2
  have hab2 := hab.below hB2
  have hva2 := hva1.below hB2
  have hBB := hB.trans (hB2.mono hB.size)
  clear hX hab hva1 hB2 hB
  have k0 := hab2.cellAt 0 _ rfl
  have k1 := hab2.cellAt 1 _ rfl
  have k2 := hab2.cellAt 2 _ rfl
  have k3 := hab2.cellAt 3 _ rfl
  have k4 := hab2.cellAt 4 _ rfl
  have k5 := hab2.cellAt 5 _ rfl
  have k6 := hab2.cellAt 6 _ rfl
  have k7 := hab2.cellAt 7 _ rfl
  have e4 : (a.k == 4) = false := by rw [beq_eq_false_iff_ne]; omega
  have e5 : (a.k == 5) = false := by rw [beq_eq_false_iff_ne]; omega
  have e6 : (a.k == 6) = false := by rw [beq_eq_false_iff_ne]; omega
  have e7 : (a.k == 7) = false := by rw [beq_eq_false_iff_ne]; omega
  have hX3 := hX2
  obtain ⟨vs, vp, xs, hb, hvs, ho, hx, hr, hrp⟩ := hX2
  have c4 := hb.cellAt 4 _ rfl
  rw [hd] at c4
  go_wp2_with (fail)
  refine (named_any _ _).mono ?_
  rintro e w3 ⟨rfl, rfl⟩
  rw [hn]
  go_wp2
  go_ret
  exact ⟨r, rfl, hX3, (Ch.refl _ _).belowR hBB, fun b h => .inl h⟩
set_option maxRecDepth 100000 in
set_option maxHeartbeats 4000000 in
theorem do_name2 (p : Nat) (r : Option Nat) (N : Nat → Prop) (d : Dk) (a : Ac) (va : Value) (w : World) (h : RX w p r N d) (hs : DkSm d) (hN : ∀ b, N b → b < w.heap.size) (hva : Rd w (dkF p r N) va (bys a.b)) (hk : a.k = 2) (hd : d.down = false) (hn : namF a.n = true) (ht : namF a.t = false) :
    Calls Try.prog 15 #[.pointer (some ⟨p, 0, none⟩), .agg (a.l va).toArray] w (DoP w p r N (d, 15)) := by
  obtain ⟨Aa, ca, rfl⟩ := hva.shape
  have hab := Blk.new' w 34 (a.l (.slice Aa a.b.length ca))
  have hB : Below w.heap.size w (w.alloc (.cells (a.l (.slice Aa a.b.length ca)).toArray 34)) := (Below.refl _ _).alloc (Nat.le_refl _) _
  have hX := h.below hB
  have hva1 := hva.below hB
  have hpl := h.lt
  have hrl := h.row
  clear h hva
  go_enter Try.func15, Try.ntmps15
  go_wp2_with (fail)
  obtain ⟨w1, hw1⟩ : ∃ x, x = w.alloc (.cells (a.l (.slice Aa a.b.length ca)).toArray 34) := ⟨_, rfl⟩
  rw [← hw1] at hab hB hX hva1 ⊢
  clear hw1
  have hN1 : ∀ b, N b → b < w1.heap.size := fun b h => by have := hN b h; have := hB.size; omega
  obtain ⟨gb, hgb⟩ : ∃ g, g = w.heap.size := ⟨_, rfl⟩
  rw [← hgb] at hab ⊢
  have hgbp : gb ≠ p := by omega
  have hgw : w.heap.size ≤ gb := by omega
  clear hgb
  refine (now_any p r N d _ hX hs hN1).mono ?_
  rintro e w2 ⟨v2, rfl, hl2, hB2⟩
  obtain ⟨L, hL⟩ : ∃ L, L = nowF d := ⟨_, rfl⟩
  rw [← hL] at hl2
  have HL := hid hL
  clear hL
  obtain ⟨Al, cl, rfl, _, _⟩ := wds_shape hl2
  have hX2 := hX.below hB2
  have hab2 := hab.below hB2
  have hva2 := hva1.below hB2
  have hBB := hB.trans (hB2.mono hB.size)
  clear hX hab hva1 hB2 hB
  have k0 := hab2.cellAt 0 _ rfl
  have k1 := hab2.cellAt 1 _ rfl
  have k2 := hab2.cellAt 2 _ rfl
  have k3 := hab2.cellAt 3 _ rfl
  have k4 := hab2.cellAt 4 _ rfl
  have k5 := hab2.cellAt 5 _ rfl
  have k6 := hab2.cellAt 6 _ rfl
  have k7 := hab2.cellAt 7 _ rfl
  have e4 : (a.k == 4) = false := by rw [beq_eq_false_iff_ne]; omega
  have e5 : (a.k == 5) = false := by rw [beq_eq_false_iff_ne]; omega
  have e6 : (a.k == 6) = false := by rw [beq_eq_false_iff_ne]; omega
  have e7 : (a.k == 7) = false := by rw [beq_eq_false_iff_ne]; omega
  have e2 : (a.k == 2) = true := by rw [hk]; rfl
  have hX3 := hX2
  obtain ⟨vs, vp, xs, hb, hvs, ho, hx, hr, hrp⟩ := hX2
  have c4 := hb.cellAt 4 _ rfl
  rw [hd] at c4
  go_wp2_with (fail)
  refine (named_any _ _).mono ?_
  rintro e w3 ⟨rfl, rfl⟩
  rw [hn]
  go_wp2_with (fail)
  refine (named_any _ _).mono ?_
  rintro e w3 ⟨rfl, rfl⟩
  rw [ht]
  go_wp2
  go_ret
  exact ⟨r, rfl, hX3, (Ch.refl _ _).belowR hBB, fun b h => .inl h⟩
end Go.Proofs.Ytjaiffefgjopmaa
