/- DD: layer 10: the law's do. -/
import Derived.Test.YtjaiffefgjopmaaDC
namespace Go.Proofs.Ytjaiffefgjopmaa
open Go.RowKit Go.V
/-- what the law's do leaves -/
def DoL (w : World) (M F : Nat → Prop) (v : Value) (k : Int) (R : Dk × Int) (e : Ending) (w' : World) : Prop := ∃ v', e = .returned (.tuple #[v', .int .i64 R.2]) ∧ IXp w M F v' R.1 w' ∧ (k ≠ 6 → v' = v)
theorem IXp.after {w w1 w' : World} {M F : Nat → Prop} {v : Value} {d : Dk} (hB : Below w.heap.size w w1) (h : IXp w1 M F v d w') : IXp w M F v d w' := by
  obtain ⟨M', F', h1, h2, h3, h4⟩ := h
  have hs := hB.size
  exact ⟨M', F', h1, ((Ch.refl M w).belowR hB).trans h2, fun b hb => (h3 b hb).elim .inl (fun h => .inr (by omega)), fun b hb => (h4 b hb).elim .inl (fun h => .inr (h.elim .inl (fun h => .inr (by omega))))⟩
set_option maxRecDepth 100000 in
set_option maxHeartbeats 2000000 in
theorem dol_0 (v : Value) (M F G : Nat → Prop) (d : Dk) (a : Ac) (va : Value) (w : World) (h : IX w v M F d) (hs : DkSm d) (ha : AcSm a) (hva : Rd w G va (bys a.b)) (hG : ∀ b, G b → b < w.heap.size ∧ ¬ M b) (hk : a.k = 0) :
    Calls Try.prog 14 #[v, .agg (a.l va).toArray] w (DoL w M F v a.k (doF d a)) := by
  obtain ⟨Aa, ca, rfl⟩ := hva.shape
  obtain ⟨x, rfl⟩ := h.ptr
  have hab := Blk.new' w 34 (a.l (.slice Aa a.b.length ca))
  have hB : Below w.heap.size w (w.alloc (.cells (a.l (.slice Aa a.b.length ca)).toArray 34)) := (Below.refl _ _).alloc (Nat.le_refl _) _
  have h1 := h.keep (fun b hb _ => hB.block b hb) hB.size
  have hva1 := hva.below hB
  clear h hva
  have e0 : (a.k == 0) = true := by rw [hk]; rfl
  have k0 := hab.cellAt 0 _ rfl
  have k1 := hab.cellAt 1 _ rfl
  have k2 := hab.cellAt 2 _ rfl
  have k3 := hab.cellAt 3 _ rfl
  have k5 := hab.cellAt 7 _ rfl
  go_enter Try.func14, Try.ntmps14
  go_wp2_with (fail)
  obtain ⟨w1, hw1⟩ : ∃ y, y = w.alloc (.cells (a.l (.slice Aa a.b.length ca)).toArray 34) := ⟨_, rfl⟩
  rw [← hw1] at hB h1 hva1 ⊢
  clear hw1 hab k0 k1 k2 k3 k5
  refine (append10_any _ M F G d a _ _ h1 hs ha hk hva1 (fun b hb => (hG b hb).2)).mono ?_
  rintro e w2 ⟨rfl, hp⟩
  have hp := hp.after hB
  go_wp2
  go_ret2
  exact ⟨_, rfl, hp, fun _ => rfl⟩
set_option maxRecDepth 100000 in
set_option maxHeartbeats 2000000 in
theorem dol_1 (v : Value) (M F G : Nat → Prop) (d : Dk) (a : Ac) (va : Value) (w : World) (h : IX w v M F d) (hs : DkSm d) (ha : AcSm a) (hva : Rd w G va (bys a.b)) (hG : ∀ b, G b → b < w.heap.size ∧ ¬ M b) (hk : a.k = 1) :
    Calls Try.prog 14 #[v, .agg (a.l va).toArray] w (DoL w M F v a.k (doF d a)) := by
  obtain ⟨Aa, ca, rfl⟩ := hva.shape
  obtain ⟨x, rfl⟩ := h.ptr
  have hab := Blk.new' w 34 (a.l (.slice Aa a.b.length ca))
  have hB : Below w.heap.size w (w.alloc (.cells (a.l (.slice Aa a.b.length ca)).toArray 34)) := (Below.refl _ _).alloc (Nat.le_refl _) _
  have h1 := h.keep (fun b hb _ => hB.block b hb) hB.size
  have hva1 := hva.below hB
  clear h hva
  have e0 : (a.k == 0) = false := by rw [hk]; rfl
  have e1 : (a.k == 1) = true := by rw [hk]; rfl
  have k0 := hab.cellAt 0 _ rfl
  have k1 := hab.cellAt 1 _ rfl
  have k2 := hab.cellAt 2 _ rfl
  have k3 := hab.cellAt 3 _ rfl
  have k5 := hab.cellAt 7 _ rfl
  go_enter Try.func14, Try.ntmps14
  go_wp2_with (fail)
  obtain ⟨w1, hw1⟩ : ∃ y, y = w.alloc (.cells (a.l (.slice Aa a.b.length ca)).toArray 34) := ⟨_, rfl⟩
  rw [← hw1] at hB h1 hva1 ⊢
  clear hw1 hab k0 k1 k2 k3 k5
  refine (write10_any _ M F G d a _ _ h1 hs ha hk hva1 (fun b hb => (hG b hb).2)).mono ?_
  rintro e w2 ⟨rfl, hp⟩
  have hp := hp.after hB
  go_wp2
  go_ret2
  exact ⟨_, rfl, hp, fun _ => rfl⟩
set_option maxRecDepth 100000 in
set_option maxHeartbeats 2000000 in
theorem dol_2 (v : Value) (M F G : Nat → Prop) (d : Dk) (a : Ac) (va : Value) (w : World) (h : IX w v M F d) (hs : DkSm d) (ha : AcSm a) (hva : Rd w G va (bys a.b)) (_hG : ∀ b, G b → b < w.heap.size ∧ ¬ M b) (hk : a.k = 2) :
    Calls Try.prog 14 #[v, .agg (a.l va).toArray] w (DoL w M F v a.k (doF d a)) := by
  obtain ⟨Aa, ca, rfl⟩ := hva.shape
  obtain ⟨x, rfl⟩ := h.ptr
  have hab := Blk.new' w 34 (a.l (.slice Aa a.b.length ca))
  have hB : Below w.heap.size w (w.alloc (.cells (a.l (.slice Aa a.b.length ca)).toArray 34)) := (Below.refl _ _).alloc (Nat.le_refl _) _
  have h1 := h.keep (fun b hb _ => hB.block b hb) hB.size
  have hva1 := hva.below hB
  clear h hva
  have e0 : (a.k == 0) = false := by rw [hk]; rfl
  have e1 : (a.k == 1) = false := by rw [hk]; rfl
  have e2 : (a.k == 2) = true := by rw [hk]; rfl
  have k0 := hab.cellAt 0 _ rfl
  have k1 := hab.cellAt 1 _ rfl
  have k2 := hab.cellAt 2 _ rfl
  have k3 := hab.cellAt 3 _ rfl
  have k5 := hab.cellAt 7 _ rfl
  go_enter Try.func14, Try.ntmps14
  go_wp2_with (fail)
  obtain ⟨w1, hw1⟩ : ∃ y, y = w.alloc (.cells (a.l (.slice Aa a.b.length ca)).toArray 34) := ⟨_, rfl⟩
  rw [← hw1] at hB h1 hva1 ⊢
  clear hw1 hab k0 k1 k2 k3 k5
  refine (rename10_any _ M F d a _ h1 hs ha hk).mono ?_
  rintro e w2 ⟨rfl, hp⟩
  have hp := hp.after hB
  go_wp2
  go_ret2
  exact ⟨_, rfl, hp, fun _ => rfl⟩
set_option maxRecDepth 100000 in
set_option maxHeartbeats 2000000 in
theorem dol_3 (v : Value) (M F G : Nat → Prop) (d : Dk) (a : Ac) (va : Value) (w : World) (h : IX w v M F d) (hs : DkSm d) (ha : AcSm a) (hva : Rd w G va (bys a.b)) (_hG : ∀ b, G b → b < w.heap.size ∧ ¬ M b) (hk : a.k = 3) :
    Calls Try.prog 14 #[v, .agg (a.l va).toArray] w (DoL w M F v a.k (doF d a)) := by
  obtain ⟨Aa, ca, rfl⟩ := hva.shape
  obtain ⟨x, rfl⟩ := h.ptr
  have hab := Blk.new' w 34 (a.l (.slice Aa a.b.length ca))
  have hB : Below w.heap.size w (w.alloc (.cells (a.l (.slice Aa a.b.length ca)).toArray 34)) := (Below.refl _ _).alloc (Nat.le_refl _) _
  have h1 := h.keep (fun b hb _ => hB.block b hb) hB.size
  have hva1 := hva.below hB
  clear h hva
  have e0 : (a.k == 0) = false := by rw [hk]; rfl
  have e1 : (a.k == 1) = false := by rw [hk]; rfl
  have e2 : (a.k == 2) = false := by rw [hk]; rfl
  have e3 : (a.k == 3) = true := by rw [hk]; rfl
  have k0 := hab.cellAt 0 _ rfl
  have k1 := hab.cellAt 1 _ rfl
  have k2 := hab.cellAt 2 _ rfl
  have k3 := hab.cellAt 3 _ rfl
  have k5 := hab.cellAt 7 _ rfl
  go_enter Try.func14, Try.ntmps14
  go_wp2_with (fail)
  obtain ⟨w1, hw1⟩ : ∃ y, y = w.alloc (.cells (a.l (.slice Aa a.b.length ca)).toArray 34) := ⟨_, rfl⟩
  rw [← hw1] at hB h1 hva1 ⊢
  clear hw1 hab k0 k1 k2 k3 k5
  refine (delete10_any _ M F d a _ h1 hs ha hk).mono ?_
  rintro e w2 ⟨rfl, hp⟩
  have hp := hp.after hB
  go_wp2
  go_ret2
  exact ⟨_, rfl, hp, fun _ => rfl⟩
set_option maxRecDepth 100000 in
set_option maxHeartbeats 2000000 in
theorem dol_4 (v : Value) (M F G : Nat → Prop) (d : Dk) (a : Ac) (va : Value) (w : World) (h : IX w v M F d) (hs : DkSm d) (_ha : AcSm a) (hva : Rd w G va (bys a.b)) (_hG : ∀ b, G b → b < w.heap.size ∧ ¬ M b) (hk : a.k = 4) :
    Calls Try.prog 14 #[v, .agg (a.l va).toArray] w (DoL w M F v a.k (doF d a)) := by
  obtain ⟨Aa, ca, rfl⟩ := hva.shape
  obtain ⟨x, rfl⟩ := h.ptr
  have hab := Blk.new' w 34 (a.l (.slice Aa a.b.length ca))
  have hB : Below w.heap.size w (w.alloc (.cells (a.l (.slice Aa a.b.length ca)).toArray 34)) := (Below.refl _ _).alloc (Nat.le_refl _) _
  have h1 := h.keep (fun b hb _ => hB.block b hb) hB.size
  have hva1 := hva.below hB
  clear h hva
  have e0 : (a.k == 0) = false := by rw [hk]; rfl
  have e1 : (a.k == 1) = false := by rw [hk]; rfl
  have e2 : (a.k == 2) = false := by rw [hk]; rfl
  have e3 : (a.k == 3) = false := by rw [hk]; rfl
  have e4 : (a.k == 4) = true := by rw [hk]; rfl
  have HZ : Hid ((doF d a).2 = 0) := by show _ = _; unfold doF; rw [if_pos hk]; split <;> rfl
  have k0 := hab.cellAt 0 _ rfl
  have k1 := hab.cellAt 1 _ rfl
  have k2 := hab.cellAt 2 _ rfl
  have k3 := hab.cellAt 3 _ rfl
  have k5 := hab.cellAt 7 _ rfl
  go_enter Try.func14, Try.ntmps14
  go_wp2_with (fail)
  obtain ⟨w1, hw1⟩ : ∃ y, y = w.alloc (.cells (a.l (.slice Aa a.b.length ca)).toArray 34) := ⟨_, rfl⟩
  rw [← hw1] at hB h1 hva1 ⊢
  clear hw1 hab k0 k1 k2 k3 k5
  refine (sync10_any _ M F d a _ h1 hs hk).mono ?_
  rintro e w2 ⟨rfl, hp⟩
  have hp := hp.after hB
  go_wp2
  go_ret2
  exact ⟨_, by rw [HZ.out]; rfl, hp, fun _ => rfl⟩
set_option maxRecDepth 100000 in
set_option maxHeartbeats 2000000 in
theorem dol_5 (v : Value) (M F G : Nat → Prop) (d : Dk) (a : Ac) (va : Value) (w : World) (h : IX w v M F d) (hs : DkSm d) (ha : AcSm a) (hva : Rd w G va (bys a.b)) (_hG : ∀ b, G b → b < w.heap.size ∧ ¬ M b) (hk : a.k = 5) :
    Calls Try.prog 14 #[v, .agg (a.l va).toArray] w (DoL w M F v a.k (doF d a)) := by
  obtain ⟨Aa, ca, rfl⟩ := hva.shape
  obtain ⟨x, rfl⟩ := h.ptr
  have hab := Blk.new' w 34 (a.l (.slice Aa a.b.length ca))
  have hB : Below w.heap.size w (w.alloc (.cells (a.l (.slice Aa a.b.length ca)).toArray 34)) := (Below.refl _ _).alloc (Nat.le_refl _) _
  have h1 := h.keep (fun b hb _ => hB.block b hb) hB.size
  have hva1 := hva.below hB
  clear h hva
  have e0 : (a.k == 0) = false := by rw [hk]; rfl
  have e1 : (a.k == 1) = false := by rw [hk]; rfl
  have e2 : (a.k == 2) = false := by rw [hk]; rfl
  have e3 : (a.k == 3) = false := by rw [hk]; rfl
  have e4 : (a.k == 4) = false := by rw [hk]; rfl
  have e5 : (a.k == 5) = true := by rw [hk]; rfl
  have HZ : Hid ((doF d a).2 = 0) := by show _ = _; unfold doF; rw [if_neg (by omega), if_pos hk]
  have hrg := hab.range 4 [.int .u64 (a.keep : Int), .int .i64 a.torn, .int .i64 a.cut] (fun j v hv => by
    match j with
    | 0 => simpa [Ac.l] using hv
    | 1 => simpa [Ac.l] using hv
    | 2 => simpa [Ac.l] using hv
    | j + 3 => simp at hv)
  have k0 := hab.cellAt 0 _ rfl
  have k1 := hab.cellAt 1 _ rfl
  have k2 := hab.cellAt 2 _ rfl
  have k3 := hab.cellAt 3 _ rfl
  have k5 := hab.cellAt 7 _ rfl
  go_enter Try.func14, Try.ntmps14
  go_wp2_with (refine wp_ld 32 (.tmp 49) rfl rfl rfl hrg Try.underlying32 rfl sizePlan10 ?_)
  obtain ⟨w1, hw1⟩ : ∃ y, y = w.alloc (.cells (a.l (.slice Aa a.b.length ca)).toArray 34) := ⟨_, rfl⟩
  rw [← hw1] at hB h1 hva1 ⊢
  clear hw1 hab k0 k1 k2 k3 k5 hrg
  refine (crash10_any _ M F d a _ h1 hs ha hk).mono ?_
  rintro e w2 ⟨rfl, hp⟩
  have hp := hp.after hB
  go_wp2
  go_ret2
  exact ⟨_, by rw [HZ.out]; rfl, hp, fun _ => rfl⟩
set_option maxRecDepth 100000 in
set_option maxHeartbeats 2000000 in
theorem dol_6 (v : Value) (M F G : Nat → Prop) (d : Dk) (a : Ac) (va : Value) (w : World) (h : IX w v M F d) (hs : DkSm d) (_ha : AcSm a) (hva : Rd w G va (bys a.b)) (_hG : ∀ b, G b → b < w.heap.size ∧ ¬ M b) (hk : a.k = 6) :
    Calls Try.prog 14 #[v, .agg (a.l va).toArray] w (DoL w M F v a.k (doF d a)) := by
  obtain ⟨Aa, ca, rfl⟩ := hva.shape
  obtain ⟨x, rfl⟩ := h.ptr
  have hab := Blk.new' w 34 (a.l (.slice Aa a.b.length ca))
  have hB : Below w.heap.size w (w.alloc (.cells (a.l (.slice Aa a.b.length ca)).toArray 34)) := (Below.refl _ _).alloc (Nat.le_refl _) _
  have h1 := h.keep (fun b hb _ => hB.block b hb) hB.size
  have hva1 := hva.below hB
  clear h hva
  have e0 : (a.k == 0) = false := by rw [hk]; rfl
  have e1 : (a.k == 1) = false := by rw [hk]; rfl
  have e2 : (a.k == 2) = false := by rw [hk]; rfl
  have e3 : (a.k == 3) = false := by rw [hk]; rfl
  have e4 : (a.k == 4) = false := by rw [hk]; rfl
  have e5 : (a.k == 5) = false := by rw [hk]; rfl
  have e6 : (a.k == 6) = true := by rw [hk]; rfl
  have HZ : Hid (doF d a = (d, 0)) := by show _ = _; unfold doF; rw [if_neg (by omega), if_neg (by omega), if_pos hk]
  have k0 := hab.cellAt 0 _ rfl
  have k1 := hab.cellAt 1 _ rfl
  have k2 := hab.cellAt 2 _ rfl
  have k3 := hab.cellAt 3 _ rfl
  have k5 := hab.cellAt 7 _ rfl
  go_enter Try.func14, Try.ntmps14
  go_wp2_with (fail)
  obtain ⟨w1, hw1⟩ : ∃ y, y = w.alloc (.cells (a.l (.slice Aa a.b.length ca)).toArray 34) := ⟨_, rfl⟩
  rw [← hw1] at hB h1 hva1 ⊢
  clear hw1 hab k0 k1 k2 k3 k5
  refine (copy10_any _ M F d _ h1 hs).mono ?_
  rintro e w2 ⟨v2, M1, F1, M2, F2, rfl, _, hX2, hC2, _, _, hM2, hF2, _, _⟩
  have hp : IXp w M F v2 d w2 := IXp.after hB ⟨M2, F2, hX2, hC2, hM2, hF2⟩
  obtain ⟨x2, rfl⟩ := hX2.ptr
  clear hX2
  go_wp2
  go_ret2
  exact ⟨_, by rw [HZ.out]; rfl, by rw [HZ.out]; exact hp, fun h => absurd hk h⟩
set_option maxRecDepth 100000 in
set_option maxHeartbeats 2000000 in
theorem dol_7 (v : Value) (M F G : Nat → Prop) (d : Dk) (a : Ac) (va : Value) (w : World) (h : IX w v M F d) (hs : DkSm d) (ha : AcSm a) (hva : Rd w G va (bys a.b)) (_hG : ∀ b, G b → b < w.heap.size ∧ ¬ M b) (hk : a.k = 7) :
    Calls Try.prog 14 #[v, .agg (a.l va).toArray] w (DoL w M F v a.k (doF d a)) := by
  obtain ⟨Aa, ca, rfl⟩ := hva.shape
  obtain ⟨x, rfl⟩ := h.ptr
  have hab := Blk.new' w 34 (a.l (.slice Aa a.b.length ca))
  have hB : Below w.heap.size w (w.alloc (.cells (a.l (.slice Aa a.b.length ca)).toArray 34)) := (Below.refl _ _).alloc (Nat.le_refl _) _
  have h1 := h.keep (fun b hb _ => hB.block b hb) hB.size
  have hva1 := hva.below hB
  clear h hva
  have e0 : (a.k == 0) = false := by rw [hk]; rfl
  have e1 : (a.k == 1) = false := by rw [hk]; rfl
  have e2 : (a.k == 2) = false := by rw [hk]; rfl
  have e3 : (a.k == 3) = false := by rw [hk]; rfl
  have e4 : (a.k == 4) = false := by rw [hk]; rfl
  have e5 : (a.k == 5) = false := by rw [hk]; rfl
  have e6 : (a.k == 6) = false := by rw [hk]; rfl
  have e7 : (a.k == 7) = true := by rw [hk]; rfl
  have HZ : Hid ((doF d a).2 = 0) := by show _ = _; unfold doF; rw [if_neg (by omega), if_neg (by omega), if_neg (by omega), if_pos hk]; split <;> rfl
  have k0 := hab.cellAt 0 _ rfl
  have k1 := hab.cellAt 1 _ rfl
  have k2 := hab.cellAt 2 _ rfl
  have k3 := hab.cellAt 3 _ rfl
  have k5 := hab.cellAt 7 _ rfl
  go_enter Try.func14, Try.ntmps14
  go_wp2_with (fail)
  obtain ⟨w1, hw1⟩ : ∃ y, y = w.alloc (.cells (a.l (.slice Aa a.b.length ca)).toArray 34) := ⟨_, rfl⟩
  rw [← hw1] at hB h1 hva1 ⊢
  clear hw1 hab k0 k1 k2 k3 k5
  refine (fuse10_any _ M F d a _ h1 hs ha hk).mono ?_
  rintro e w2 ⟨rfl, hp⟩
  have hp := hp.after hB
  go_wp2
  go_ret2
  exact ⟨_, by rw [HZ.out]; rfl, hp, fun _ => rfl⟩
theorem dol_any (v : Value) (M F G : Nat → Prop) (d : Dk) (a : Ac) (va : Value) (w : World) (h : IX w v M F d) (hs : DkSm d) (ha : AcSm a) (hva : Rd w G va (bys a.b)) (hG : ∀ b, G b → b < w.heap.size ∧ ¬ M b) (hk : 0 ≤ a.k ∧ a.k ≤ 7) :
    Calls Try.prog 14 #[v, .agg (a.l va).toArray] w (DoL w M F v a.k (doF d a)) := by
  have : a.k = 0 ∨ a.k = 1 ∨ a.k = 2 ∨ a.k = 3 ∨ a.k = 4 ∨ a.k = 5 ∨ a.k = 6 ∨ a.k = 7 := by omega
  rcases this with e | e | e | e | e | e | e | e
  · exact dol_0 v M F G d a va w h hs ha hva hG e
  · exact dol_1 v M F G d a va w h hs ha hva hG e
  · exact dol_2 v M F G d a va w h hs ha hva hG e
  · exact dol_3 v M F G d a va w h hs ha hva hG e
  · exact dol_4 v M F G d a va w h hs ha hva hG e
  · exact dol_5 v M F G d a va w h hs ha hva hG e
  · exact dol_6 v M F G d a va w h hs ha hva hG e
  · exact dol_7 v M F G d a va w h hs ha hva hG e
end Go.Proofs.Ytjaiffefgjopmaa
