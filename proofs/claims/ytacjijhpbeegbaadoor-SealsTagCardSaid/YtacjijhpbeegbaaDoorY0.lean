/- Y0: several texts in one. -/
import Derived.Test.YtacjijhpbeegbaaDoorVA
import Derived.Test.YtacjijhpbeegbaaDoorVH
import Derived.Test.YtacjijhpbeegbaaDoorR2
import Derived.Stop.BytesEq
import Derived.Test.YtacjijhpbeegbaaDoorRB
import Derived.Deep.DeepCutAuto
/- Y0: layer 8: messages as lists, in memory. No project text. -/
namespace Go.V
open Go.RowKit
structure Mg where
  k : Int
  f : Int
  v : Int
  r : Int
  s : Int
  h : List UInt8
  b : List UInt8
  ps : List (List UInt8)
/-- its cells: body and parts are slices -/
def Mg.l (m : Mg) (ub up : Value) : List Value := .int .i64 m.k :: .int .i64 m.f :: .int .i64 m.v :: .int .i64 m.r :: .int .i64 m.s :: (bvs m.h ++ [ub, up])
def Mg.val (m : Mg) (ub up : Value) : Value := .agg (m.l ub up).toArray
def un (x : Int) : Nat := (x % 18446744073709551616).toNat
theorem un_lt (x : Int) : un x < 18446744073709551616 := by unfold un; omega
theorem un_wrap (x : Int) : IntKind.u64.wrap x = (un x : Int) := by rw [IntKind.wrap_u64]; unfold un; omega
theorem un_nat (n : Nat) (h : n < 18446744073709551616) : un (n : Int) = n := by unfold un; omega
def tb1 (t : List UInt8) : List UInt8 := packed t.length ++ t
def numB (m : Mg) : Bool := decide (1 ≤ m.k ∧ m.k ≤ 12 ∧ 0 ≤ m.f ∧ m.f ≤ 15 ∧ 0 ≤ m.v ∧ m.v ≤ 60 ∧ 0 ≤ m.r ∧ m.r ≤ 40 ∧ 0 ≤ m.s ∧ m.s ≤ 60)
def longB (m : Mg) : Bool := decide (3000 < m.b.length ∨ 20 < m.ps.length ∨ ∃ t ∈ m.ps, 3000 < t.length)
theorem len_mg {m : Mg} (hh : m.h.length = 32) (ub up : Value) : (m.l ub up).length = 39 := by simp [Mg.l, bvs, hh]
theorem mg_body {m : Mg} (hh : m.h.length = 32) (ub up : Value) : (m.l ub up)[37]? = some ub := by
  have : (bvs m.h ++ [ub, up])[32]? = some ub := by rw [List.getElem?_append_right (by simp [bvs, hh])]; simp [bvs, hh]
  simpa [Mg.l] using this
theorem mg_parts {m : Mg} (hh : m.h.length = 32) (ub up : Value) : (m.l ub up)[38]? = some up := by
  have : (bvs m.h ++ [ub, up])[33]? = some up := by rw [List.getElem?_append_right (by simp [bvs, hh])]; simp [bvs, hh]
  simpa [Mg.l] using this
theorem mg_hash {m : Mg} (_hh : m.h.length = 32) (ub up : Value) (j : Nat) (v : Value) (hv : (bvs m.h)[j]? = some v) : (m.l ub up)[5 + j]? = some v := by
  have hj := (List.getElem?_eq_some_iff.1 hv).1
  have : (bvs m.h ++ [ub, up])[j]? = some v := by rw [List.getElem?_append_left hj]; exact hv
  rw [show 5 + j = j + 5 from by omega]
  simpa [Mg.l] using this
theorem one_mg {m : Mg} {A B : Option Addr} {n c k d : Nat} : ∀ v ∈ m.l (.slice A n c) (.slice B k d), v.oneCell' = true := by
  intro v hv
  simp only [Mg.l, List.mem_cons, List.mem_append] at hv
  rcases hv with rfl | rfl | rfl | rfl | rfl | hv | rfl | rfl | hv
  · rfl
  · rfl
  · rfl
  · rfl
  · rfl
  · exact oneCell_bvs _ v hv
  · rfl
  · rfl
  · cases hv
/-- a message's parts in a block: what the walk asks for -/
structure MgAt (w : World) (g : Nat) (t : TypeId) (m : Mg) (ub up : Value) : Prop where
  blk : Blk w g t (m.l ub up)
  len : m.h.length = 32
theorem own_join {w : World} {b : Nat} {e : TypeId} {v : Value} {p q : List UInt8} (h : w.ownsRow b e 1 v (p.length + q.length) (bvs p ++ bvs q)) : w.ownsRow b e 1 v (p ++ q).length (bvs (p ++ q)) := by
  rw [List.length_append, show bvs (p ++ q) = bvs p ++ bvs q from by simp [bvs]]
  exact h
theorem long_bd {m : Mg} (h : longB m = false) : m.b.length ≤ 3000 ∧ m.ps.length ≤ 20 ∧ ∀ t ∈ m.ps, t.length ≤ 3000 := by
  unfold longB at h
  rw [decide_eq_false_iff_not] at h
  refine ⟨by omega, by omega, fun t ht => ?_⟩
  rcases Nat.lt_or_ge 3000 t.length with h3 | h3
  · exact absurd (.inr (.inr ⟨t, ht, h3⟩)) h
  · exact h3
theorem len_tb1 {t : List UInt8} (h : t.length ≤ 3000) : (tb1 t).length ≤ 3010 := by
  have := psz_bd t.length
  unfold tb1
  rw [List.length_append, length_packed]
  omega
theorem len_parts : ∀ (ps : List (List UInt8)), (∀ t ∈ ps, t.length ≤ 3000) → (ps.flatMap tb1).length ≤ 3010 * ps.length
  | [], _ => by simp
  | t :: ps, h => by
    rw [List.flatMap_cons, List.length_append, List.length_cons]
    have h1 := len_tb1 (h t (by simp))
    have h2 := len_parts ps (fun x hx => h x (by simp [hx]))
    omega
theorem take_snocT {l : List (List UInt8)} {i : Nat} {r : List UInt8} (h : l[i]? = some r) : l.take (i + 1) = l.take i ++ [r] := by
  rw [List.take_add_one, h]; rfl
def in64w (x : Int) : Prop := -9223372036854775808 ≤ x ∧ x ≤ 9223372036854775807
structure MgIn (m : Mg) : Prop where
  k : in64w m.k
  f : in64w m.f
  v : in64w m.v
  r : in64w m.r
  s : in64w m.s
  h : m.h.length = 32
end Go.V
namespace Go.Proofs.YtacjijhpbeegbaaDoor
open Go.RowKit Go.V
def Mg.hd (m : Mg) : List UInt8 := ((((fixR 1 (un m.k) ++ fixR 1 (un m.f)) ++ fixR 2 (un m.v)) ++ fixR 2 (un m.r)) ++ fixR 2 (un m.s)) ++ m.h
def Mg.by (m : Mg) : List UInt8 := (((Mg.hd m) ++ (packed m.b.length ++ m.b)) ++ packed m.ps.length) ++ m.ps.flatMap tb1
theorem len_fixR1 (x : Nat) : (fixR 1 x).length = 1 := by unfold fixR; rw [if_pos (by unfold okN; omega)]; simp [fixB]
theorem len_fixR2 (x : Nat) : (fixR 2 x).length = 2 := by unfold fixR; rw [if_pos (by unfold okN; omega)]; simp [fixB]
theorem len_hd {m : Mg} (hh : m.h.length = 32) : (Mg.hd m).length = 40 := by
  unfold Mg.hd
  simp only [List.length_append, len_fixR1, len_fixR2, hh]
theorem eqH8 (p : List UInt8) (hp : p.length = 32) : ∀ W : World, (Op.equalIn 10000 24 (.agg (bvs p).toArray) (.agg (bvs p).toArray)).run Tryd.prog W = .ok true W := fun W => by
  have := run_equalIn_bytes (P := Tryd.prog) W 9998 24 5 32 Tryd.underlying24 Tryd.underlying5 Tryd.sizeOf5 p p hp hp
  rw [beq_self_eq_true] at this
  exact this
theorem sizeM : (Tryd.prog.info? 27).map (·.size) = some 39 := by kernel_rfl
end Go.Proofs.YtacjijhpbeegbaaDoor
/- Y1: layer 8: contract of the document's Bytes. -/
namespace Go.Proofs.YtacjijhpbeegbaaDoor
open Go.RowKit Go.V
set_option maxRecDepth 100000 in
set_option maxHeartbeats 4000000 in
theorem rby8_any (m : Mg) (ub up : Value) (w : World) (hh : m.h.length = 32) (hlo : longB m = false) (hub : Rd w (fun b => b < w.heap.size) ub (bys m.b)) (hup : Rd w (fun b => b < w.heap.size) up (tx m.ps)) :
    Calls Tryd.prog 27 #[m.val ub up] w fun e w' => ∃ v', e = .returned v' ∧ NewB w w' v' (Mg.by m) := by
  obtain ⟨hb3, hp20, hpl⟩ := long_bd hlo
  obtain ⟨AB, cb, rfl⟩ := hub.shape
  obtain ⟨AP, cpp, rfl, _, _⟩ := hup.slShape
  unfold Mg.val
  have hvb := Blk.new' w 27 (m.l (.slice AB m.b.length cb) (.slice AP m.ps.length cpp))
  have hB : Below w.heap.size w (w.alloc (.cells (m.l (.slice AB m.b.length cb) (.slice AP m.ps.length cpp)).toArray 27)) := (Below.refl _ _).alloc (Nat.le_refl _) _
  have hub := hub.below hB
  have hup := hup.below hB
  clear hlo
  have c0 := hvb.cellAt 0 _ rfl
  have hw0 := un_wrap m.k
  go_enter Tryd.func27, Tryd.ntmps27
  go_wp2_with (fail)
  obtain ⟨w0, hw1⟩ : ∃ x, x = w.alloc (.cells (m.l (.slice AB m.b.length cb) (.slice AP m.ps.length cpp)).toArray 27) := ⟨_, rfl⟩
  rw [← hw1] at hvb hB hub hup c0 ⊢
  clear hw1
  obtain ⟨g, hg⟩ : ∃ g, g = w.heap.size := ⟨_, rfl⟩
  rw [← hg] at hvb c0 ⊢
  clear hg
  refine (refx_any (un m.k) 1 _ (un_lt _)).mono ?_
  rintro e x0 ⟨v0, rfl, ho0, hB0⟩
  have hvb := hvb.below hB0
  have hub := hub.below hB0
  have hup := hup.below hB0
  have hB := hB.trans (hB0.mono hB.size)
  obtain ⟨q0, hq0⟩ : ∃ q, q = fixR 1 (un m.k) := ⟨_, rfl⟩
  have hl0 : q0.length ≤ 3010 := by rw [hq0]; rw [len_fixR1 _]; omega
  rw [← hq0] at ho0
  have Hq0 := hid hq0
  clear hq0 c0 hw0
  obtain ⟨A0, k0, rfl⟩ := own_shape ho0
  go_wp2_with (refine wp_app (.tmp 5) (.tmp 9) slB rfl rfl rfl (World.ownsRow_nil _ w.heap.size _ _) rfl (Rd.of_own ho0).src (oneCell_bvs _) (by simp only [maxLen]; omega) (by omega) hB.size ?_; intro y0 z0 hro2 hG0 _; refine wp_stop ?_)
  have hG0 : x0.grownBy z0 none := hG0
  have hro2 : z0.ownsRow w.heap.size 5 1 y0 q0.length (bvs q0) := by simpa using hro2
  have hvb := hvb.keep (hG0.block _ hvb.lt (by simp))
  have hB := hB.grown hG0 hB.size (fun b h => by cases h)
  have hub := hub.keep (fun b hb hF => ⟨hF, hG0.block _ hb (by simp)⟩)
  have hup := hup.keep (fun b hb hF => ⟨hF, hG0.block _ hb (by simp)⟩)
  obtain ⟨P0, hP0, hro⟩ : ∃ P, P = q0 ∧ z0.ownsRow w.heap.size 5 1 y0 P.length (bvs P) := ⟨_, rfl, hro2⟩
  have hm0 : P0.length ≤ 3010 := by rw [hP0]; omega
  have HP0 := hid hP0
  clear hP0 hro2 ho0 hB0 hG0
  refine wp_go ?_
  have c0 := hvb.cellAt 1 _ rfl
  have hw0 := un_wrap m.f
  go_wp2_with (fail)
  refine (refx_any (un m.f) 1 _ (un_lt _)).mono ?_
  rintro e x1 ⟨v1, rfl, ho1, hB1⟩
  have hvb := hvb.below hB1
  have hub := hub.below hB1
  have hup := hup.below hB1
  have hB := hB.trans (hB1.mono hB.size)
  have hro := own_bel hro hB1
  obtain ⟨q1, hq1⟩ : ∃ q, q = fixR 1 (un m.f) := ⟨_, rfl⟩
  have hl1 : q1.length ≤ 3010 := by rw [hq1]; rw [len_fixR1 _]; omega
  rw [← hq1] at ho1
  have Hq1 := hid hq1
  clear hq1 c0 hw0
  obtain ⟨A1, k1, rfl⟩ := own_shape ho1
  go_wp2_with (refine wp_app (.tmp 11) (.tmp 15) slB rfl rfl rfl hro rfl (Rd.of_own ho1).src (oneCell_bvs _) (by simp only [maxLen]; omega) (by omega) hB.size ?_; intro y1 z1 hro2 hG1 _; refine wp_stop ?_)
  have hvb := hvb.keep (hG1.block _ hvb.lt (blk_row hvb hro (by decide)))
  have hub := hub.keep (fun b hb hF => ⟨hF, hG1.block _ hb (fun h => by have := (hro.lt b h.symm).1; have h2 : b < w.heap.size := hF; omega)⟩)
  have hup := hup.keep (fun b hb hF => ⟨hF, hG1.block _ hb (fun h => by have := (hro.lt b h.symm).1; have h2 : b < w.heap.size := hF; omega)⟩)
  have hB := hB.grown hG1 hB.size (fun k hk => (hro.lt k hk).1)
  obtain ⟨P1, hP1, hro⟩ : ∃ P, P = P0 ++ q1 ∧ z1.ownsRow w.heap.size 5 1 y1 P.length (bvs P) := ⟨_, rfl, own_join hro2⟩
  have hm1 : P1.length ≤ 6020 := by rw [hP1]; rw [List.length_append]; omega
  have HP1 := hid hP1
  clear hP1 hro2 ho1 hB1 hG1
  refine wp_go ?_
  have c0 := hvb.cellAt 2 _ rfl
  have hw0 := un_wrap m.v
  go_wp2_with (fail)
  refine (refx_any (un m.v) 2 _ (un_lt _)).mono ?_
  rintro e x2 ⟨v2, rfl, ho2, hB2⟩
  have hvb := hvb.below hB2
  have hub := hub.below hB2
  have hup := hup.below hB2
  have hB := hB.trans (hB2.mono hB.size)
  have hro := own_bel hro hB2
  obtain ⟨q2, hq2⟩ : ∃ q, q = fixR 2 (un m.v) := ⟨_, rfl⟩
  have hl2 : q2.length ≤ 3010 := by rw [hq2]; rw [len_fixR2 _]; omega
  rw [← hq2] at ho2
  have Hq2 := hid hq2
  clear hq2 c0 hw0
  obtain ⟨A2, k2, rfl⟩ := own_shape ho2
  go_wp2_with (refine wp_app (.tmp 17) (.tmp 21) slB rfl rfl rfl hro rfl (Rd.of_own ho2).src (oneCell_bvs _) (by simp only [maxLen]; omega) (by omega) hB.size ?_; intro y2 z2 hro2 hG2 _; refine wp_stop ?_)
  have hvb := hvb.keep (hG2.block _ hvb.lt (blk_row hvb hro (by decide)))
  have hub := hub.keep (fun b hb hF => ⟨hF, hG2.block _ hb (fun h => by have := (hro.lt b h.symm).1; have h2 : b < w.heap.size := hF; omega)⟩)
  have hup := hup.keep (fun b hb hF => ⟨hF, hG2.block _ hb (fun h => by have := (hro.lt b h.symm).1; have h2 : b < w.heap.size := hF; omega)⟩)
  have hB := hB.grown hG2 hB.size (fun k hk => (hro.lt k hk).1)
  obtain ⟨P2, hP2, hro⟩ : ∃ P, P = P1 ++ q2 ∧ z2.ownsRow w.heap.size 5 1 y2 P.length (bvs P) := ⟨_, rfl, own_join hro2⟩
  have hm2 : P2.length ≤ 9030 := by rw [hP2]; rw [List.length_append]; omega
  have HP2 := hid hP2
  clear hP2 hro2 ho2 hB2 hG2
  refine wp_go ?_
  have c0 := hvb.cellAt 3 _ rfl
  have hw0 := un_wrap m.r
  go_wp2_with (fail)
  refine (refx_any (un m.r) 2 _ (un_lt _)).mono ?_
  rintro e x3 ⟨v3, rfl, ho3, hB3⟩
  have hvb := hvb.below hB3
  have hub := hub.below hB3
  have hup := hup.below hB3
  have hB := hB.trans (hB3.mono hB.size)
  have hro := own_bel hro hB3
  obtain ⟨q3, hq3⟩ : ∃ q, q = fixR 2 (un m.r) := ⟨_, rfl⟩
  have hl3 : q3.length ≤ 3010 := by rw [hq3]; rw [len_fixR2 _]; omega
  rw [← hq3] at ho3
  have Hq3 := hid hq3
  clear hq3 c0 hw0
  obtain ⟨A3, k3, rfl⟩ := own_shape ho3
  go_wp2_with (refine wp_app (.tmp 23) (.tmp 27) slB rfl rfl rfl hro rfl (Rd.of_own ho3).src (oneCell_bvs _) (by simp only [maxLen]; omega) (by omega) hB.size ?_; intro y3 z3 hro2 hG3 _; refine wp_stop ?_)
  have hvb := hvb.keep (hG3.block _ hvb.lt (blk_row hvb hro (by decide)))
  have hub := hub.keep (fun b hb hF => ⟨hF, hG3.block _ hb (fun h => by have := (hro.lt b h.symm).1; have h2 : b < w.heap.size := hF; omega)⟩)
  have hup := hup.keep (fun b hb hF => ⟨hF, hG3.block _ hb (fun h => by have := (hro.lt b h.symm).1; have h2 : b < w.heap.size := hF; omega)⟩)
  have hB := hB.grown hG3 hB.size (fun k hk => (hro.lt k hk).1)
  obtain ⟨P3, hP3, hro⟩ : ∃ P, P = P2 ++ q3 ∧ z3.ownsRow w.heap.size 5 1 y3 P.length (bvs P) := ⟨_, rfl, own_join hro2⟩
  have hm3 : P3.length ≤ 12040 := by rw [hP3]; rw [List.length_append]; omega
  have HP3 := hid hP3
  clear hP3 hro2 ho3 hB3 hG3
  refine wp_go ?_
  have c0 := hvb.cellAt 4 _ rfl
  have hw0 := un_wrap m.s
  go_wp2_with (fail)
  refine (refx_any (un m.s) 2 _ (un_lt _)).mono ?_
  rintro e x4 ⟨v4, rfl, ho4, hB4⟩
  have hvb := hvb.below hB4
  have hub := hub.below hB4
  have hup := hup.below hB4
  have hB := hB.trans (hB4.mono hB.size)
  have hro := own_bel hro hB4
  obtain ⟨q4, hq4⟩ : ∃ q, q = fixR 2 (un m.s) := ⟨_, rfl⟩
  have hl4 : q4.length ≤ 3010 := by rw [hq4]; rw [len_fixR2 _]; omega
  rw [← hq4] at ho4
  have Hq4 := hid hq4
  clear hq4 c0 hw0
  obtain ⟨A4, k4, rfl⟩ := own_shape ho4
  go_wp2_with (refine wp_app (.tmp 29) (.tmp 33) slB rfl rfl rfl hro rfl (Rd.of_own ho4).src (oneCell_bvs _) (by simp only [maxLen]; omega) (by omega) hB.size ?_; intro y4 z4 hro2 hG4 _; refine wp_stop ?_)
  have hvb := hvb.keep (hG4.block _ hvb.lt (blk_row hvb hro (by decide)))
  have hub := hub.keep (fun b hb hF => ⟨hF, hG4.block _ hb (fun h => by have := (hro.lt b h.symm).1; have h2 : b < w.heap.size := hF; omega)⟩)
  have hup := hup.keep (fun b hb hF => ⟨hF, hG4.block _ hb (fun h => by have := (hro.lt b h.symm).1; have h2 : b < w.heap.size := hF; omega)⟩)
  have hB := hB.grown hG4 hB.size (fun k hk => (hro.lt k hk).1)
  obtain ⟨P4, hP4, hro⟩ : ∃ P, P = P3 ++ q4 ∧ z4.ownsRow w.heap.size 5 1 y4 P.length (bvs P) := ⟨_, rfl, own_join hro2⟩
  have hm4 : P4.length ≤ 15050 := by rw [hP4]; rw [List.length_append]; omega
  have HP4 := hid hP4
  clear hP4 hro2 ho4 hB4 hG4
  refine wp_go ?_
  go_wp2_with (refine wp_ld 24 (.tmp 36) rfl rfl rfl (hvb.range 5 _ (mg_hash hh _ _)) Tryd.underlying24 rfl (by rw [len_bvs, hh]; exact size25) ?_)
  refine (rbytes_any m.h _ hh).mono ?_
  rintro e x5 ⟨v5, rfl, ho5, hB5⟩
  have hvb := hvb.below hB5
  have hub := hub.below hB5
  have hup := hup.below hB5
  have hB := hB.trans (hB5.mono hB.size)
  have hro := own_bel hro hB5
  obtain ⟨q5, hq5⟩ : ∃ q, q = m.h := ⟨_, rfl⟩
  have hl5 : q5.length ≤ 3010 := by rw [hq5]; rw [hh]; omega
  rw [← hq5] at ho5
  have Hq5 := hid hq5
  clear hq5
  obtain ⟨A5, k5, rfl⟩ := own_shape ho5
  go_wp2_with (refine wp_app (.tmp 35) (.tmp 38) slB rfl rfl rfl hro rfl (Rd.of_own ho5).src (oneCell_bvs _) (by simp only [maxLen]; omega) (by omega) hB.size ?_; intro y5 z5 hro2 hG5 _; refine wp_stop ?_)
  have hvb := hvb.keep (hG5.block _ hvb.lt (blk_row hvb hro (by decide)))
  have hub := hub.keep (fun b hb hF => ⟨hF, hG5.block _ hb (fun h => by have := (hro.lt b h.symm).1; have h2 : b < w.heap.size := hF; omega)⟩)
  have hup := hup.keep (fun b hb hF => ⟨hF, hG5.block _ hb (fun h => by have := (hro.lt b h.symm).1; have h2 : b < w.heap.size := hF; omega)⟩)
  have hB := hB.grown hG5 hB.size (fun k hk => (hro.lt k hk).1)
  obtain ⟨P5, hP5, hro⟩ : ∃ P, P = P4 ++ q5 ∧ z5.ownsRow w.heap.size 5 1 y5 P.length (bvs P) := ⟨_, rfl, own_join hro2⟩
  have hm5 : P5.length ≤ 18060 := by rw [hP5]; rw [List.length_append]; omega
  have HP5 := hid hP5
  clear hP5 hro2 ho5 hB5 hG5
  refine wp_go ?_
  have c0 := hvb.cellAt 37 _ (mg_body hh _ _)
  go_wp2_with (fail)
  refine (reft_any _ m.b _ _ hub (by omega)).mono ?_
  rintro e x6 ⟨v6, rfl, ho6, hB6⟩
  have hvb := hvb.below hB6
  have hub := hub.below hB6
  have hup := hup.below hB6
  have hB := hB.trans (hB6.mono hB.size)
  have hro := own_bel hro hB6
  obtain ⟨q6, hq6⟩ : ∃ q, q = packed m.b.length ++ m.b := ⟨_, rfl⟩
  have hl6 : q6.length ≤ 3010 := by rw [hq6]; rw [List.length_append, length_packed]; have := psz_bd m.b.length; omega
  rw [← hq6] at ho6
  have Hq6 := hid hq6
  clear hq6 c0
  obtain ⟨A6, k6, rfl⟩ := own_shape ho6
  go_wp2_with (refine wp_app (.tmp 40) (.tmp 43) slB rfl rfl rfl hro rfl (Rd.of_own ho6).src (oneCell_bvs _) (by simp only [maxLen]; omega) (by omega) hB.size ?_; intro y6 z6 hro2 hG6 _; refine wp_stop ?_)
  have hvb := hvb.keep (hG6.block _ hvb.lt (blk_row hvb hro (by decide)))
  have hub := hub.keep (fun b hb hF => ⟨hF, hG6.block _ hb (fun h => by have := (hro.lt b h.symm).1; have h2 : b < w.heap.size := hF; omega)⟩)
  have hup := hup.keep (fun b hb hF => ⟨hF, hG6.block _ hb (fun h => by have := (hro.lt b h.symm).1; have h2 : b < w.heap.size := hF; omega)⟩)
  have hB := hB.grown hG6 hB.size (fun k hk => (hro.lt k hk).1)
  obtain ⟨P6, hP6, hro⟩ : ∃ P, P = P5 ++ q6 ∧ z6.ownsRow w.heap.size 5 1 y6 P.length (bvs P) := ⟨_, rfl, own_join hro2⟩
  have hm6 : P6.length ≤ 21070 := by rw [hP6]; rw [List.length_append]; omega
  have HP6 := hid hP6
  clear hP6 hro2 ho6 hB6 hG6
  refine wp_go ?_
  have c0 := hvb.cellAt 38 _ (mg_parts hh _ _)
  have hw0 : IntKind.u64.wrap (m.ps.length : Int) = (m.ps.length : Int) := by rw [IntKind.wrap_u64]; omega
  go_wp2_with (fail)
  refine (refp_any m.ps.length _ (by omega)).mono ?_
  rintro e x7 ⟨v7, rfl, ho7, hB7⟩
  have hvb := hvb.below hB7
  have hub := hub.below hB7
  have hup := hup.below hB7
  have hB := hB.trans (hB7.mono hB.size)
  have hro := own_bel hro hB7
  obtain ⟨q7, hq7⟩ : ∃ q, q = packed m.ps.length := ⟨_, rfl⟩
  have hl7 : q7.length ≤ 3010 := by rw [hq7]; rw [length_packed]; have := psz_bd m.ps.length; omega
  rw [← hq7] at ho7
  have Hq7 := hid hq7
  clear hq7 c0 hw0
  obtain ⟨A7, k7, rfl⟩ := own_shape ho7
  go_wp2_with (refine wp_app (.tmp 45) (.tmp 50) slB rfl rfl rfl hro rfl (Rd.of_own ho7).src (oneCell_bvs _) (by simp only [maxLen]; omega) (by omega) hB.size ?_; intro y7 z7 hro2 hG7 _; refine wp_stop ?_)
  have hvb := hvb.keep (hG7.block _ hvb.lt (blk_row hvb hro (by decide)))
  have hub := hub.keep (fun b hb hF => ⟨hF, hG7.block _ hb (fun h => by have := (hro.lt b h.symm).1; have h2 : b < w.heap.size := hF; omega)⟩)
  have hup := hup.keep (fun b hb hF => ⟨hF, hG7.block _ hb (fun h => by have := (hro.lt b h.symm).1; have h2 : b < w.heap.size := hF; omega)⟩)
  have hB := hB.grown hG7 hB.size (fun k hk => (hro.lt k hk).1)
  obtain ⟨P7, hP7, hro⟩ : ∃ P, P = P6 ++ q7 ∧ z7.ownsRow w.heap.size 5 1 y7 P.length (bvs P) := ⟨_, rfl, own_join hro2⟩
  have hm7 : P7.length ≤ 24080 := by rw [hP7]; rw [List.length_append]; omega
  have HP7 := hid hP7
  clear hP7 hro2 ho7 hB7 hG7
  refine wp_go ?_
  go_wp2
  have HPS : Hid (P7 = ((Mg.hd m) ++ (packed m.b.length ++ m.b)) ++ packed m.ps.length) := by
    show _ = _
    rw [HP7.out, HP6.out, HP5.out, HP4.out, HP3.out, HP2.out, HP1.out, HP0.out, Hq0.out, Hq1.out, Hq2.out, Hq3.out, Hq4.out, Hq5.out, Hq6.out, Hq7.out]
    rfl
  clear Hq0 Hq1 Hq2 Hq3 Hq4 Hq5 Hq6 Hq7 HP0 HP1 HP2 HP3 HP4 HP5 HP6 HP7
  go_loopw [3, 4] (fun bv iv wr => ∃ i : Nat, i ≤ m.ps.length ∧ iv = .int .i64 i ∧ wr.ownsRow w.heap.size 5 1 bv (P7 ++ (m.ps.take i).flatMap tb1).length (bvs (P7 ++ (m.ps.take i).flatMap tb1)) ∧ Blk wr g 27 (m.l (.slice AB m.b.length cb) (.slice AP m.ps.length cpp)) ∧ Rd wr (fun b => b < w.heap.size) (.slice AP m.ps.length cpp) (tx m.ps) ∧ Below w.heap.size w wr) (fun _ i _ => m.ps.length - (intOf i).toNat)
  case atStart => exact ⟨0, Nat.zero_le _, rfl, by rw [List.take_zero, List.flatMap_nil, List.append_nil]; exact hro, hvb, hup, hB⟩
  case round =>
    clear hro hvb hup hB hub
    obtain ⟨i, hi, rfl, hro, hvb, hup, hB⟩ := hrel
    have c0 := hvb.cellAt 38 _ (mg_parts hh _ _)
    by_cases hlt : i < m.ps.length
    · obtain ⟨t, ht⟩ : ∃ t, m.ps[i]? = some t := ⟨_, List.getElem?_eq_getElem hlt⟩
      have hI : (i : Int) < (m.ps.length : Int) := by omega
      obtain ⟨G, off, u, rfl, hG, hcu, hu⟩ := Rd.elem hup i (bys t) (by rw [List.getElem?_map, ht]; rfl)
      obtain ⟨A1, c1, rfl⟩ := hu.shape
      have htl := hpl t (List.mem_of_getElem? ht)
      have hlf := len_parts (m.ps.take i) (fun x hx => hpl x (List.mem_of_mem_take hx))
      have Htk := hid (take_snocT ht)
      obtain ⟨P, hP, hro⟩ : ∃ P, P = P7 ++ (m.ps.take i).flatMap tb1 ∧ wr.ownsRow w.heap.size 5 1 _ P.length (bvs P) := ⟨_, rfl, hro⟩
      have hPl : P.length ≤ 100000 := by rw [hP, List.length_append]; rw [List.length_take] at hlf; omega
      have HP := hid hP
      clear hP ht hlf
      go_wp2_with (fail)
      refine (reft_any _ t _ _ hu (by omega)).mono ?_
      rintro e x9 ⟨v9, rfl, ho9, hB9⟩
      obtain ⟨q, hq⟩ : ∃ q, q = packed t.length ++ t := ⟨_, rfl⟩
      have hql : q.length ≤ 3010 := by rw [hq, List.length_append, length_packed]; have := psz_bd t.length; omega
      rw [← hq] at ho9
      have Hq := hid hq
      clear hq
      have hvb := hvb.below hB9
      have hup := hup.below hB9
      have hB := hB.trans (hB9.mono hB.size)
      have hro := own_bel hro hB9
      obtain ⟨A9, k9, rfl⟩ := own_shape ho9
      clear c0 hcu hu
      go_wp2_with (refine wp_app (.tmp 59) (.tmp 65) slB rfl rfl rfl hro rfl (Rd.of_own ho9).src (oneCell_bvs _) (by simp only [maxLen]; omega) (by omega) hB.size ?_; intro y9 z9 hro2 hG9 _; refine wp_stop ?_)
      have hvb := hvb.keep (hG9.block _ hvb.lt (blk_row hvb hro (by decide)))
      have hup := hup.keep (fun b hb hF => ⟨hF, hG9.block _ hb (fun h => by have := (hro.lt b h.symm).1; have h2 : b < w.heap.size := hF; omega)⟩)
      have hB := hB.grown hG9 hB.size (fun k hk => (hro.lt k hk).1)
      have hro2 := own_join hro2
      clear hro ho9 hB9 hG9
      refine wp_go ?_
      go_wp2
      go_roundw
      case rel =>
        refine ⟨i + 1, by omega, by go_num, ?_, hvb, hup, hB⟩
        rw [Htk.out, List.flatMap_append, List.flatMap_singleton, ← List.append_assoc, ← HP.out]
        rw [show tb1 t = q from Hq.out.symm]
        exact hro2
      case measure => simp [intOf]; omega
    · have hi' : i = m.ps.length := by omega
      subst hi'
      have hI : ¬ (m.ps.length : Int) < (m.ps.length : Int) := by omega
      rw [List.take_length] at hro
      have hby : Mg.by m = P7 ++ m.ps.flatMap tb1 := by
        rw [HPS.out]; rfl
      have Hby := hid hby
      clear hby
      go_wp2
      go_ret
      exact ⟨_, rfl, by rw [Hby.out]; exact ⟨hro, hB⟩⟩
end Go.Proofs.YtacjijhpbeegbaaDoor
/- Y2: layer 8: contracts of the document's Numbers, Long. -/
namespace Go.Proofs.YtacjijhpbeegbaaDoor
open Go.RowKit Go.V
set_option maxHeartbeats 1000000 in
theorem num8_any (m : Mg) (ub up : Value) (w : World) :
    Calls Tryd.prog 28 #[m.val ub up] w fun e w' => e = .returned (.bool (numB m)) ∧ Below w.heap.size w w' := by
  unfold Mg.val
  have hb := Blk.new' w 27 (m.l ub up)
  have hB : Below w.heap.size w (w.alloc (.cells (m.l ub up).toArray 27)) := (Below.refl _ _).alloc (Nat.le_refl _) _
  have c0 := hb.cellAt 0 _ rfl
  have c1 := hb.cellAt 1 _ rfl
  have c2 := hb.cellAt 2 _ rfl
  have c3 := hb.cellAt 3 _ rfl
  have c4 := hb.cellAt 4 _ rfl
  have hr : numB m = decide (1 ≤ m.k ∧ m.k ≤ 12 ∧ 0 ≤ m.f ∧ m.f ≤ 15 ∧ 0 ≤ m.v ∧ m.v ≤ 60 ∧ 0 ≤ m.r ∧ m.r ≤ 40 ∧ 0 ≤ m.s ∧ m.s ≤ 60) := rfl
  obtain ⟨q, hq⟩ : ∃ q, q = numB m := ⟨_, rfl⟩
  rw [← hq] at hr ⊢
  have Hr := hid hr
  clear hr hq
  go_enter Tryd.func28, Tryd.ntmps28
  go_wp2
  all_goals (go_ret; exact ⟨by rw [Hr.out]; exact ret_b (by rw [Bool.eq_iff_iff]; simp; try omega), hB⟩)
theorem long_t {m : Mg} (h : 3000 < m.b.length ∨ 20 < m.ps.length ∨ ∃ t ∈ m.ps, 3000 < t.length) : longB m = true := by
  unfold longB; rw [decide_eq_true_iff]; exact h
theorem long_f {m : Mg} (h1 : ¬ 3000 < m.b.length) (h2 : ¬ 20 < m.ps.length) (h3 : ∀ t ∈ m.ps, t.length ≤ 3000) : longB m = false := by
  unfold longB
  rw [decide_eq_false_iff_not]
  rintro (h | h | ⟨t, ht, h⟩)
  · exact h1 h
  · exact h2 h
  · have := h3 t ht; omega
set_option maxHeartbeats 1000000 in
theorem long8_any (m : Mg) (ub up : Value) (w : World) (hh : m.h.length = 32) (F1 F2 : Nat → Prop) (hub : Rd w F1 ub (bys m.b)) (hup : Rd w F2 up (tx m.ps)) :
    Calls Tryd.prog 8 #[m.val ub up] w fun e w' => e = .returned (.bool (longB m)) ∧ Below w.heap.size w w' := by
  obtain ⟨AB, cb, rfl⟩ := hub.shape
  obtain ⟨AP, cpp, rfl, _, _⟩ := hup.slShape
  unfold Mg.val
  have hvb := Blk.new' w 27 (m.l (.slice AB m.b.length cb) (.slice AP m.ps.length cpp))
  have hB : Below w.heap.size w (w.alloc (.cells (m.l (.slice AB m.b.length cb) (.slice AP m.ps.length cpp)).toArray 27)) := (Below.refl _ _).alloc (Nat.le_refl _) _
  have hup := hup.below hB
  have c0 := hvb.cellAt 37 _ (mg_body hh _ _)
  have c1 := hvb.cellAt 38 _ (mg_parts hh _ _)
  go_enter Tryd.func8, Tryd.ntmps8
  by_cases h1 : 3000 < m.b.length
  · have h1I : (3000 : Int) < (m.b.length : Int) := by omega
    go_wp2
    go_ret
    exact ⟨by rw [long_t (.inl h1)]; rfl, hB⟩
  have h1I : ¬ (3000 : Int) < (m.b.length : Int) := by omega
  by_cases h2 : 20 < m.ps.length
  · have h2I : (20 : Int) < (m.ps.length : Int) := by omega
    go_wp2
    go_ret
    exact ⟨by rw [long_t (.inr (.inl h2))]; rfl, hB⟩
  have h2I : ¬ (20 : Int) < (m.ps.length : Int) := by omega
  go_wp2
  obtain ⟨w0, hw0⟩ : ∃ x, x = w.alloc (.cells (m.l (.slice AB m.b.length cb) (.slice AP m.ps.length cpp)).toArray 27) := ⟨_, rfl⟩
  rw [← hw0] at hvb hB hup c0 c1 ⊢
  clear hw0 c0 c1
  obtain ⟨g, hg⟩ : ∃ g, g = w.heap.size := ⟨_, rfl⟩
  rw [← hg] at hvb ⊢
  clear hg
  go_loopw [3] (fun iv wr => ∃ i : Nat, i ≤ m.ps.length ∧ iv = .int .i64 i ∧ (∀ t ∈ m.ps.take i, t.length ≤ 3000) ∧ Below w0.heap.size w0 wr) (fun i _ => m.ps.length - (intOf i).toNat)
  case atStart => exact ⟨0, Nat.zero_le _, rfl, fun t h => by simp at h, Below.refl _ _⟩
  case round =>
    obtain ⟨i, hi, rfl, hall, hBr⟩ := hrel
    have Hall := hid hall
    clear hall
    have hBr' := hB.trans (hBr.mono hB.size)
    have c1 := (hvb.below hBr).cellAt 38 _ (mg_parts hh _ _)
    by_cases hlt : i < m.ps.length
    · obtain ⟨t, ht⟩ : ∃ t, m.ps[i]? = some t := ⟨_, List.getElem?_eq_getElem hlt⟩
      have hI : (i : Int) < (m.ps.length : Int) := by omega
      obtain ⟨G, off, u, rfl, hG, hcu, hu⟩ := Rd.elem (hup.below hBr) i (bys t) (by rw [List.getElem?_map, ht]; rfl)
      obtain ⟨A1, c1', rfl⟩ := hu.shape
      have Hmem := hid (List.mem_of_getElem? ht)
      have Htk := hid (take_snocT ht)
      clear ht
      by_cases h3 : 3000 < t.length
      · have h3I : (3000 : Int) < (t.length : Int) := by omega
        go_wp2
        go_ret
        exact ⟨by rw [long_t (.inr (.inr ⟨t, Hmem.out, h3⟩))]; rfl, hBr'⟩
      · have h3I : ¬ (3000 : Int) < (t.length : Int) := by omega
        go_wp2
        go_roundw
        case rel =>
          refine ⟨i + 1, by omega, by go_num, ?_, hBr⟩
          rw [Htk.out]
          intro x hx
          rw [List.mem_append] at hx
          rcases hx with hx | hx
          · exact Hall.out x hx
          · simp at hx; subst hx; omega
        case measure => simp [intOf]; omega
    · have hi' : i = m.ps.length := by omega
      subst hi'
      have hI : ¬ (m.ps.length : Int) < (m.ps.length : Int) := by omega
      have Hf := hid (long_f h1 h2 (by have := Hall.out; rwa [List.take_length] at this))
      go_wp2
      go_ret
      exact ⟨by rw [Hf.out]; rfl, hBr'⟩
end Go.Proofs.YtacjijhpbeegbaaDoor
/- Y3: layer 8: contracts of the document's SameParts, Same, Put. -/
namespace Go.Proofs.YtacjijhpbeegbaaDoor
open Go.RowKit Go.V
set_option maxRecDepth 100000 in
set_option maxHeartbeats 2000000 in
theorem sameParts_any (v1 v2 : Value) (l : List (List UInt8)) (F1 F2 : Nat → Prop) (w : World) (h1 : Rd w F1 v1 (tx l)) (h2 : Rd w F2 v2 (tx l)) (hn : l.length ≤ 1000000) :
    Calls Tryd.prog 22 #[v1, v2] w fun e w' => e = .returned (.bool true) ∧ Below w.heap.size w w' := by
  obtain ⟨A1, c1, rfl, _, _⟩ := h1.slShape
  obtain ⟨A2, c2, rfl, _, _⟩ := h2.slShape
  go_enter Tryd.func22, Tryd.ntmps22
  go_wp2
  go_loopw [5] (fun iv wr => ∃ i : Nat, i ≤ l.length ∧ iv = .int .i64 i ∧ Below w.heap.size w wr) (fun i _ => l.length - (intOf i).toNat)
  case atStart => exact ⟨0, Nat.zero_le _, rfl, Below.refl _ _⟩
  case round =>
    obtain ⟨i, hi, rfl, hBr⟩ := hrel
    by_cases hlt : i < l.length
    · obtain ⟨t, ht⟩ : ∃ t, l[i]? = some t := ⟨_, List.getElem?_eq_getElem hlt⟩
      have hI : (i : Int) < (l.length : Int) := by omega
      obtain ⟨G1, off1, u1, rfl, _, hx1, hu1⟩ := Rd.elem (h1.below hBr) i (bys t) (by rw [List.getElem?_map, ht]; rfl)
      obtain ⟨G2, off2, u2, rfl, _, hx2, hu2⟩ := Rd.elem (h2.below hBr) i (bys t) (by rw [List.getElem?_map, ht]; rfl)
      obtain ⟨B1, d1, rfl⟩ := hu1.shape
      obtain ⟨B2, d2, rfl⟩ := hu2.shape
      clear ht
      go_upto_region 6 with (fail)
      have H1 : Hid (∀ W, Ch nob wr W → W.cell? ⟨G1, off1 + i, none⟩ = some (.slice B1 t.length d1)) := fun W h => (World.cell?_of_block (h.block _ (lt_of_cell hx1) (fun h => h))).trans hx1
      have H2 : Hid (∀ W, Ch nob wr W → W.cell? ⟨G2, off2 + i, none⟩ = some (.slice B2 t.length d2)) := fun W h => (World.cell?_of_block (h.block _ (lt_of_cell hx2) (fun h => h))).trans hx2
      refine wp_region_noPanic ?_
      refine wp_region_held_drew (S := Ch nob wr) (by kernel_rfl) ((Ch.refl _ _).drew) (fun hHeld => ?_)
      refine wpAnyH_take (i := 0) (oi := ⟨some 17, _, _, _, _, none⟩) (v := ?_) rfl (by kernel_rfl) (by kernel_rfl) (by kernel_rfl) (fun _ _ _ h => h) (Or.inl ⟨by rfl, ?_⟩) (by assumption) ?_
      rotate_left
      · intro w hSw; go_simp; try with_reducible rfl
      try simp only [Act.put, List.setIfInBounds_toArray, List.set_cons_zero, List.set_cons_succ]
      refine wpAnyH_take (i := 1) (oi := ⟨some 18, _, _, _, _, none⟩) (v := ?_) rfl (by kernel_rfl) (by kernel_rfl) (by kernel_rfl) (fun _ _ _ h => h) (Or.inl ⟨by rfl, ?_⟩) (by assumption) ?_
      rotate_left
      · intro w hSw; go_simp; try with_reducible rfl
      try simp only [Act.put, List.setIfInBounds_toArray, List.set_cons_zero, List.set_cons_succ]
      refine wpAnyH_take (i := 2) (oi := ⟨some 19, _, _, _, _, none⟩) (v := ?_) rfl (by kernel_rfl) (by kernel_rfl) (by kernel_rfl) (fun _ _ _ h => h) (Or.inl ⟨by rfl, ?_⟩) (by assumption) ?_
      rotate_left
      · intro w hSw; go_simp; try with_reducible rfl
      try simp only [Act.put, List.setIfInBounds_toArray, List.set_cons_zero, List.set_cons_succ]
      refine wpAnyH_take (i := 3) (oi := ⟨some 20, _, _, _, _, none⟩) (v := ?_) rfl (by kernel_rfl) (by kernel_rfl) (by kernel_rfl) (fun _ _ _ h => h) (Or.inl ⟨by rfl, ?_⟩) (by assumption) ?_
      rotate_left
      · intro w hSw; have hcw := H1.out w hSw; go_simp; try with_reducible rfl
      try simp only [Act.put, List.setIfInBounds_toArray, List.set_cons_zero, List.set_cons_succ]
      refine wpAnyH_take (i := 4) (oi := ⟨some 21, _, _, _, _, none⟩) (v := ?_) rfl (by kernel_rfl) (by kernel_rfl) (by kernel_rfl) (fun _ _ _ h => h) (Or.inl ⟨by rfl, ?_⟩) (by assumption) ?_
      rotate_left
      · intro w hSw; go_simp; try with_reducible rfl
      try simp only [Act.put, List.setIfInBounds_toArray, List.set_cons_zero, List.set_cons_succ]
      refine wpAnyH_take (i := 5) (oi := ⟨some 22, _, _, _, _, none⟩) (v := ?_) rfl (by kernel_rfl) (by kernel_rfl) (by kernel_rfl) (fun _ _ _ h => h) (Or.inl ⟨by rfl, ?_⟩) (by assumption) ?_
      rotate_left
      · intro w hSw; go_simp; try with_reducible rfl
      try simp only [Act.put, List.setIfInBounds_toArray, List.set_cons_zero, List.set_cons_succ]
      refine wpAnyH_take (i := 6) (oi := ⟨some 23, _, _, _, _, none⟩) (v := ?_) rfl (by kernel_rfl) (by kernel_rfl) (by kernel_rfl) (fun _ _ _ h => h) (Or.inl ⟨by rfl, ?_⟩) (by assumption) ?_
      rotate_left
      · intro w hSw; go_simp; try with_reducible rfl
      try simp only [Act.put, List.setIfInBounds_toArray, List.set_cons_zero, List.set_cons_succ]
      refine wpAnyH_take (i := 7) (oi := ⟨some 24, _, _, _, _, none⟩) (v := ?_) rfl (by kernel_rfl) (by kernel_rfl) (by kernel_rfl) (fun _ _ _ h => h) (Or.inl ⟨by rfl, ?_⟩) (by assumption) ?_
      rotate_left
      · intro w hSw; have hcw := H2.out w hSw; go_simp; try with_reducible rfl
      try simp only [Act.put, List.setIfInBounds_toArray, List.set_cons_zero, List.set_cons_succ]
      refine wpAnyH_ready (rs := [8]) (by kernel_rfl) (by simp) ?_
      refine AllReadyH.cons (o := ⟨some 25, _, _, _, _, none⟩) rfl (fun K hK => ?_) AllReadyH.nil
      go_simp
      refine (same_b _ _ t t _ _ _ (hu1.ext hHeld) (hu2.ext hHeld)).mono ?_
      rintro e' w11 ⟨rfl, hB11⟩
      rw [decide_eq_true rfl]
      have hC11 := hHeld.belowR hB11
      refine hK.out _ _ (hC11) (fun hHeld => ?_)
      clear hK K
      try simp only [Act.put, List.setIfInBounds_toArray, List.set_cons_zero, List.set_cons_succ]
      refine wpAnyH_take (i := 9) (oi := ⟨some 26, _, _, _, _, none⟩) (v := ?_) rfl (by kernel_rfl) (by kernel_rfl) (by kernel_rfl) (fun _ _ _ h => h) (Or.inl ⟨by rfl, ?_⟩) (by assumption) ?_
      rotate_left
      · intro w hSw; go_simp; try with_reducible rfl
      try simp only [Act.put, List.setIfInBounds_toArray, List.set_cons_zero, List.set_cons_succ]
      refine wpAnyH_done (by kernel_rfl) ?_ _
      refine NoPanic.normal ?_
      go_wp2
      go_roundw
      case rel => exact ⟨i + 1, by omega, by go_num, hBr.trans (hC11.below.mono hBr.size)⟩
      case measure => simp [intOf]; omega
    · have hi' : i = l.length := by omega
      subst hi'
      have hI : ¬ (l.length : Int) < (l.length : Int) := by omega
      go_wp2
      go_ret
      exact ⟨rfl, hBr⟩
set_option maxRecDepth 100000 in
set_option maxHeartbeats 2000000 in
theorem same8_any (m : Mg) (ub1 up1 ub2 up2 : Value) (F1 F2 F3 F4 : Nat → Prop) (w : World) (hh : m.h.length = 32) (h1 : Rd w F1 ub1 (bys m.b)) (h2 : Rd w F2 up1 (tx m.ps)) (h3 : Rd w F3 ub2 (bys m.b)) (h4 : Rd w F4 up2 (tx m.ps)) (hn : m.ps.length ≤ 1000000) :
    Calls Tryd.prog 14 #[m.val ub1 up1, m.val ub2 up2] w fun e w' => e = .returned (.bool true) ∧ Below w.heap.size w w' := by
  obtain ⟨A1, c1, rfl⟩ := h1.shape
  obtain ⟨A2, c2, rfl, _, _⟩ := h2.slShape
  obtain ⟨A3, c3, rfl⟩ := h3.shape
  obtain ⟨A4, c4, rfl, _, _⟩ := h4.slShape
  unfold Mg.val
  obtain ⟨l1, hl1⟩ : ∃ l, l = m.l (.slice A1 m.b.length c1) (.slice A2 m.ps.length c2) := ⟨_, rfl⟩
  obtain ⟨l2, hl2⟩ : ∃ l, l = m.l (.slice A3 m.b.length c3) (.slice A4 m.ps.length c4) := ⟨_, rfl⟩
  rw [← hl1, ← hl2]
  have hal1 : Below w.heap.size w (w.alloc (.cells l1.toArray 27)) := (Below.refl _ _).alloc (Nat.le_refl _) _
  have x1 := Blk.new' w 27 l1
  obtain ⟨w1, hw1⟩ : ∃ x, x = w.alloc (.cells l1.toArray 27) := ⟨_, rfl⟩
  have hsz : w1.heap.size = w.heap.size + 1 := by rw [hw1]; simp
  have x2 := Blk.new' w1 27 l2
  have hal2 : Below w1.heap.size w1 (w1.alloc (.cells l2.toArray 27)) := (Below.refl _ _).alloc (Nat.le_refl _) _
  have x1 : Blk w1 w.heap.size 27 l1 := by rw [hw1]; exact x1
  have hB : Below w.heap.size w w1 := by rw [hw1]; exact hal1
  have x1 := x1.below hal2
  have hB2 := hB.trans (hal2.mono hB.size)
  have h1 := h1.below hB2
  have h2 := h2.below hB2
  have h3 := h3.below hB2
  have h4 := h4.below hB2
  rw [hsz] at x2
  clear hsz hal1 hal2 hB
  subst hw1
  go_enter Tryd.func14, Tryd.ntmps14
  have c0 := x1.cellAt 0 (.int .i64 m.k) (by rw [hl1]; rfl)
  have c1 := x1.cellAt 1 (.int .i64 m.f) (by rw [hl1]; rfl)
  have c2 := x1.cellAt 2 (.int .i64 m.v) (by rw [hl1]; rfl)
  have c3 := x1.cellAt 3 (.int .i64 m.r) (by rw [hl1]; rfl)
  have c4 := x1.cellAt 4 (.int .i64 m.s) (by rw [hl1]; rfl)
  have c37 := x1.cellAt 37 _ (by rw [hl1]; exact mg_body hh _ _)
  have c38 := x1.cellAt 38 _ (by rw [hl1]; exact mg_parts hh _ _)
  have d0 := x2.cellAt 0 (.int .i64 m.k) (by rw [hl2]; rfl)
  have d1 := x2.cellAt 1 (.int .i64 m.f) (by rw [hl2]; rfl)
  have d2 := x2.cellAt 2 (.int .i64 m.v) (by rw [hl2]; rfl)
  have d3 := x2.cellAt 3 (.int .i64 m.r) (by rw [hl2]; rfl)
  have d4 := x2.cellAt 4 (.int .i64 m.s) (by rw [hl2]; rfl)
  have d37 := x2.cellAt 37 _ (by rw [hl2]; exact mg_body hh _ _)
  have d38 := x2.cellAt 38 _ (by rw [hl2]; exact mg_parts hh _ _)
  have r1 := x1.range 5 (bvs m.h) (by rw [hl1]; exact mg_hash hh _ _)
  have r2 := x2.range 5 (bvs m.h) (by rw [hl2]; exact mg_hash hh _ _)
  have heq := eqH8 m.h hh
  have Hl1 := hid hl1
  have Hl2 := hid hl2
  clear hl1 hl2
  go_wp2_with (first | (refine wp_ldg 24 (.tmp 39) (by rfl) rfl rfl r1 Tryd.underlying24 rfl (by rw [len_bvs, hh]; exact size25) ?_) | (refine wp_ldg 24 (.tmp 41) (by rfl) rfl rfl r2 Tryd.underlying24 rfl (by rw [len_bvs, hh]; exact size25) ?_))
  refine (same_b _ _ m.b m.b _ _ _ h1 h3).mono ?_
  rintro e x3 ⟨rfl, hB3⟩
  rw [decide_eq_true rfl]
  have x1 := x1.below hB3
  have x2 := x2.below hB3
  have h2 := h2.below hB3
  have h4 := h4.below hB3
  have hB3' := hB2.trans (hB3.mono hB2.size)
  clear c0 c1 c2 c3 c4 c37 c38 d0 d1 d2 d3 d4 d37 d38 r1 r2
  have c38 := x1.cellAt 38 _ (by rw [Hl1.out]; exact mg_parts hh _ _)
  have d38 := x2.cellAt 38 _ (by rw [Hl2.out]; exact mg_parts hh _ _)
  go_wp2_with (fail)
  refine (sameParts_any _ _ m.ps _ _ _ h2 h4 hn).mono ?_
  rintro e x4 ⟨rfl, hB4⟩
  go_wp2
  go_ret
  exact ⟨rfl, hB3'.trans (hB4.mono hB3'.size)⟩
def errM (m : Mg) : Nat := if 16 < m.ps.length then 4 else if numB m then 0 else 15
theorem len_by {m : Mg} (hh : m.h.length = 32) (hlo : longB m = false) : (Mg.by m).length ≤ 63260 := by
  obtain ⟨h1, h2, h3⟩ := long_bd hlo
  have h4 := len_parts m.ps h3
  have h5 := psz_bd m.b.length
  have h6 := psz_bd m.ps.length
  unfold Mg.by
  simp only [List.length_append, length_packed, len_hd hh]
  omega
set_option maxRecDepth 100000 in
set_option maxHeartbeats 2000000 in
theorem rput8_any (m : Mg) (ub up : Value) (w : World) (hh : m.h.length = 32) (hlo : longB m = false) (hub : Rd w (fun b => b < w.heap.size) ub (bys m.b)) (hup : Rd w (fun b => b < w.heap.size) up (tx m.ps)) :
    Calls Tryd.prog 17 #[m.val ub up] w fun e w' => ∃ v', e = .returned (.tuple #[v', .int .i64 (errM m : Int)]) ∧ NewB w w' v' (if errM m = 0 then Mg.by m else []) := by
  have hby := fun W h1 h2 => rby8_any m ub up W hh hlo h1 h2
  have hnm := fun W => num8_any m ub up W
  have hlen := len_by hh hlo
  have herr : errM m = if 16 < m.ps.length then 4 else if numB m then 0 else 15 := rfl
  obtain ⟨er, her⟩ : ∃ er, er = errM m := ⟨_, rfl⟩
  obtain ⟨P, hP⟩ : ∃ P, P = Mg.by m := ⟨_, rfl⟩
  rw [← her] at herr ⊢
  rw [← hP] at hby hlen ⊢
  have Her0 := hid herr
  clear her hP herr
  obtain ⟨AB, cb, rfl⟩ := hub.shape
  obtain ⟨AP, cpp, rfl, _, _⟩ := hup.slShape
  unfold Mg.val at hby hnm ⊢
  have hml := mg_parts hh (.slice AB m.b.length cb) (.slice AP m.ps.length cpp)
  have hmn := len_mg hh (.slice AB m.b.length cb) (.slice AP m.ps.length cpp)
  obtain ⟨l, hl⟩ : ∃ l, l = m.l (.slice AB m.b.length cb) (.slice AP m.ps.length cpp) := ⟨_, rfl⟩
  rw [← hl] at hby hnm hml hmn ⊢
  clear hl
  have Hml := hid hml
  have Hmn := hid hmn
  clear hml hmn
  have hvb := Blk.new' w 27 l
  have hB : Below w.heap.size w (w.alloc (.cells l.toArray 27)) := (Below.refl _ _).alloc (Nat.le_refl _) _
  have hsz : w.heap.size < (w.alloc (.cells l.toArray 27)).heap.size := by simp
  have hub := (hub.below hB).weak (F' := fun b => b < (w.alloc (.cells l.toArray 27)).heap.size) (fun b _ h => by omega)
  have hup := (hup.below hB).weak (F' := fun b => b < (w.alloc (.cells l.toArray 27)).heap.size) (fun b _ h => by omega)
  go_enter Tryd.func17, Tryd.ntmps17
  go_wp2_with (refine wp_ld 27 (.tmp 1) rfl rfl rfl hvb.whole Tryd.underlying27 rfl (by rw [Hmn.out]; exact sizeM) ?_)
  refine (hby _ hub hup).mono ?_
  rintro e x1 ⟨v1, rfl, ho1, hB1⟩
  have hvb := hvb.below hB1
  have hB1' := hB.trans (hB1.mono hB.size)
  clear hby hub hup hsz
  obtain ⟨A1, k1, rfl⟩ := own_shape ho1
  have c38 := hvb.cellAt 38 _ Hml.out
  have herr := Her0.out
  by_cases h16 : 16 < m.ps.length
  · have hI : (16 : Int) < (m.ps.length : Int) := by omega
    rw [if_pos h16] at herr
    subst herr
    go_wp2
    go_ret2
    exact ⟨_, rfl, World.ownsRow_nil _ _ _ _, hB1'⟩
  · have hI : ¬ (16 : Int) < (m.ps.length : Int) := by omega
    have hI2 : ¬ (65504 : Int) < (P.length : Int) := by omega
    rw [if_neg h16] at herr
    have Herr := hid herr
    clear herr
    go_wp2_with (refine wp_ld 27 (.tmp 1) rfl rfl rfl hvb.whole Tryd.underlying27 rfl (by rw [Hmn.out]; exact sizeM) ?_)
    refine (hnm _).mono ?_
    rintro e x2 ⟨rfl, hB2⟩
    have hB2' := hB1'.trans (hB2.mono hB1'.size)
    have ho2 := own_bel ho1 hB2
    have herr := Herr.out
    clear hnm c38
    cases hn : numB m with
    | false =>
      rw [hn] at herr
      have herr2 : er = 15 := herr
      clear herr
      clear hn Herr hI hI2 Her0 Hml Hmn hlen
      subst herr2
      go_wp2
      go_ret2
      exact ⟨_, rfl, World.ownsRow_nil _ _ _ _, hB2'⟩
    | true =>
      rw [hn] at herr
      have herr2 : er = 0 := herr
      clear herr
      clear hn Herr hI hI2 Her0 Hml Hmn hlen
      subst herr2
      go_wp2
      go_ret2
      exact ⟨_, rfl, own_weak ho2 hB.size, hB2'⟩
end Go.Proofs.YtacjijhpbeegbaaDoor
/- Y4: layer 8: contract of the document's Copied. -/
namespace Go.V
open Go.RowKit
theorem mg_set37 {m : Mg} (hh : m.h.length = 32) (ub up u : Value) : (m.l ub up).set 37 u = m.l u up := by
  have : (bvs m.h ++ [ub, up]).set 32 u = bvs m.h ++ [u, up] := by
    rw [List.set_append_right _ _ (by simp [bvs, hh])]
    simp [bvs, hh]
  simpa [Mg.l] using this
theorem mg_set38 {m : Mg} (hh : m.h.length = 32) (ub up u : Value) : (m.l ub up).set 38 u = m.l ub u := by
  have : (bvs m.h ++ [ub, up]).set 33 u = bvs m.h ++ [ub, u] := by
    rw [List.set_append_right _ _ (by simp [bvs, hh])]
    simp [bvs, hh]
  simpa [Mg.l] using this
end Go.V
namespace Go.V
theorem own_keep8 {w w' : World} {base : Nat} {e : TypeId} {s : Nat} {v : Value} {n : Nat} {xs : List Value} (h : w.ownsRow base e s v n xs) (hk : ∀ k, k < w.heap.size → v.ownBlock = some k → w'.heap[k]? = w.heap[k]?) : w'.ownsRow base e s v n xs := by
  obtain ⟨h1, h2⟩ := h
  refine ⟨h1, ?_⟩
  rcases h2 with h | ⟨g, cap, cur, rfl, hg, hh, h3⟩
  · exact .inl h
  · exact .inr ⟨g, cap, cur, rfl, hg, (hk g (lt_of_block hh) rfl).trans hh, h3⟩
end Go.V
namespace Go.Proofs.YtacjijhpbeegbaaDoor
open Go.RowKit Go.V
theorem slBB8 : SlT Tryd.prog 22 25 (.slice none 0 0) 24 := .of Tryd.underlying22 (by kernel_rfl) rfl
theorem sizeSl8 : (Tryd.prog.info? 25).map (·.size) = some 1 := by kernel_rfl
theorem sizeSS8 : (Tryd.prog.info? 22).map (·.size) = some 1 := by kernel_rfl
def zM : List Value := .int .i64 0 :: .int .i64 0 :: .int .i64 0 :: .int .i64 0 :: .int .i64 0 :: (zs8 32 ++ [.slice none 0 0, .slice none 0 0])
theorem zeroM : (Tryd.prog.info? 27).map (·.zero) = some (some (.agg zM.toArray)) := by kernel_rfl
theorem len_zM : zM.length = 39 := by simp [zM, zs8]
set_option maxRecDepth 100000 in
set_option maxHeartbeats 4000000 in
theorem copied8_any (m : Mg) (ub up : Value) (F1 F2 : Nat → Prop) (w : World) (hh : m.h.length = 32) (hlo : longB m = false) (hub : Rd w F1 ub (bys m.b)) (hup : Rd w F2 up (tx m.ps)) :
    Calls Tryd.prog 10 #[m.val ub up] w fun e w' => ∃ ub' up', e = .returned (m.val ub' up') ∧ Rd w' (fun b => w.heap.size ≤ b) ub' (bys m.b) ∧ Rd w' (fun b => w.heap.size ≤ b) up' (tx m.ps) ∧ Below w.heap.size w w' := by
  obtain ⟨hb3, hp20, hpl⟩ := long_bd hlo
  obtain ⟨AB, cb, rfl⟩ := hub.shape
  obtain ⟨AP, cpp, rfl, _, _⟩ := hup.slShape
  have hub := hub.weak (F' := fun b => b < w.heap.size) (fun b h _ => h)
  have hup := hup.weak (F' := fun b => b < w.heap.size) (fun b h _ => h)
  unfold Mg.val
  have hvb := Blk.new' w 27 (m.l (.slice AB m.b.length cb) (.slice AP m.ps.length cpp))
  have hB : Below w.heap.size w (w.alloc (.cells (m.l (.slice AB m.b.length cb) (.slice AP m.ps.length cpp)).toArray 27)) := (Below.refl _ _).alloc (Nat.le_refl _) _
  have hub := hub.below hB
  have hup := hup.below hB
  clear hlo
  go_enter Tryd.func10, Tryd.ntmps10
  go_wp2_with (refine wp_new 27 rfl rfl zeroM ?_; refine wp_stop ?_)
  obtain ⟨w0, hw0⟩ : ∃ x, x = w.alloc (.cells (m.l (.slice AB m.b.length cb) (.slice AP m.ps.length cpp)).toArray 27) := ⟨_, rfl⟩
  have hs0 : w0.heap.size = w.heap.size + 1 := by rw [hw0]; simp
  rw [← hw0] at hvb hB hub hup ⊢
  clear hw0
  have hal1 : Below w0.heap.size w0 (w0.alloc (.cells zM.toArray 27)) := (Below.refl _ _).alloc (Nat.le_refl _) _
  have hz := Blk.new' w0 27 zM
  have hvb := hvb.below hal1
  have hub := hub.below hal1
  have hup := hup.below hal1
  have hB := hB.trans (hal1.mono hB.size)
  obtain ⟨w1, hw1⟩ : ∃ x, x = w0.alloc (.cells zM.toArray 27) := ⟨_, rfl⟩
  have hs1 : w1.heap.size = w0.heap.size + 1 := by rw [hw1]; simp
  rw [← hw1] at hvb hB hub hup hz ⊢
  clear hw1 hal1
  obtain ⟨gr, hgr⟩ : ∃ g, g = w.heap.size + 1 := ⟨_, rfl⟩
  rw [hs0, ← hgr] at hz
  rw [← hgr]
  obtain ⟨g, hg⟩ : ∃ g, g = w.heap.size := ⟨_, rfl⟩
  rw [← hg] at hvb ⊢
  have hlt : w.heap.size ≤ g ∧ g < gr ∧ gr < w1.heap.size ∧ w.heap.size ≤ w1.heap.size := by omega
  have hN : ∀ b, b < w.heap.size → b < w1.heap.size := by omega
  clear hg hgr hs0 hs1
  have c0 := hvb.cellAt 37 _ (mg_body hh _ _)
  refine wp_go ?_
  go_wp2_with (refine wp_app (.tmp 7) (.tmp 9) slB rfl rfl rfl (World.ownsRow_nil _ w1.heap.size _ _) rfl hub.src (oneCell_bvs _) (by simp only [maxLen]; omega) (by omega) (Nat.le_refl _) ?_; intro v2 w2 ho2 hG2 _; refine wp_stop ?_)
  have hG2 : w1.grownBy w2 none := hG2
  have ho2 : w2.ownsRow w1.heap.size 5 1 v2 m.b.length (bvs m.b) := by simpa using ho2
  have hr2 := (Rd.of_own ho2).weak (F' := fun b => w1.heap.size ≤ b ∧ b < w2.heap.size) (fun b hb h => ⟨h, hb⟩)
  have hvb := hvb.keep (hG2.block _ hvb.lt (by simp))
  have hz := hz.keep (hG2.block _ hz.lt (by simp))
  have hup := hup.keep (fun b hb hF => ⟨hF, hG2.block _ hb (by simp)⟩)
  have hB := hB.grown hG2 hB.size (fun b h => by cases h)
  have hs2 := hG2.size
  clear c0 ho2 hG2 hub
  refine wp_go ?_
  go_wp2
  go_loopw [4, 5] (fun lv iv wr => ∃ (i : Nat) (us : List Value), i ≤ m.ps.length ∧ iv = .int .i64 i ∧ wr.ownsRow w2.heap.size 25 1 lv i us ∧ TxX wr (fun b => w2.heap.size ≤ b ∧ lv.ownBlock ≠ some b) (m.ps.take i) us ∧ Blk wr g 27 (m.l (.slice AB m.b.length cb) (.slice AP m.ps.length cpp)) ∧ Blk wr gr 27 zM ∧
    Rd wr (fun b => b < w.heap.size) (.slice AP m.ps.length cpp) (tx m.ps) ∧ Rd wr (fun b => w1.heap.size ≤ b ∧ b < w2.heap.size) v2 (bys m.b) ∧ w2.heap.size ≤ wr.heap.size ∧ Below w.heap.size w wr) (fun _ i _ => m.ps.length - (intOf i).toNat)
  case atStart => exact ⟨0, [], Nat.zero_le _, rfl, World.ownsRow_nil _ _ _ _, TxX.nil _ _, hvb, hz, hup, hr2, Nat.le_refl _, hB⟩
  case round =>
    clear hvb hz hup hr2 hB
    obtain ⟨i, us, hi, rfl, hro, htx, hvb, hz, hup, hr2, hsz, hB⟩ := hrel
    have c1 := hvb.cellAt 38 _ (mg_parts hh _ _)
    by_cases hlt' : i < m.ps.length
    · obtain ⟨t, ht⟩ : ∃ t, m.ps[i]? = some t := ⟨_, List.getElem?_eq_getElem hlt'⟩
      have hI : (i : Int) < (m.ps.length : Int) := by omega
      obtain ⟨G, off, u, rfl, hG, hcu, hu⟩ := Rd.elem hup i (bys t) (by rw [List.getElem?_map, ht]; rfl)
      obtain ⟨A1, k1, rfl⟩ := hu.shape
      have htl := hpl t (List.mem_of_getElem? ht)
      have Htk := hid (take_snocT ht)
      clear ht
      go_wp2_with (refine wp_app (.tmp 18) (.tmp 23) slB rfl rfl rfl (World.ownsRow_nil _ wr.heap.size _ _) rfl hu.src (oneCell_bvs _) (by simp only [maxLen]; omega) (by omega) (Nat.le_refl _) ?_; intro v3 w3 ho3 hG3 _; refine wp_stop ?_)
      have hG3 : wr.grownBy w3 none := hG3
      have ho3 : w3.ownsRow wr.heap.size 5 1 v3 t.length (bvs t) := by simpa using ho3
      obtain ⟨A3, k3, rfl⟩ := own_shape ho3
      have hr3 := Rd.of_own ho3
      have hs3 := hG3.size
      have hvb := hvb.keep (hG3.block _ hvb.lt (by simp))
      have hz := hz.keep (hG3.block _ hz.lt (by simp))
      have hup := hup.keep (fun b hb hF => ⟨hF, hG3.block _ hb (by simp)⟩)
      have hr2 := hr2.keep (fun b hb hF => ⟨hF, hG3.block _ hb (by simp)⟩)
      have hlv := fun k hk => (hro.lt k hk).2
      have hro := own_keep8 hro (fun k hk _ => hG3.block _ hk (by simp))
      have htx := htx.keep (fun b hb hF => ⟨hF, hG3.block _ hb (by simp)⟩)
      have hB := hB.grown hG3 hB.size (fun b h => by cases h)
      clear c1 hcu hu ho3 hG3
      refine wp_go ?_
      go_wp2_with (refine wp_push (.tmp 25) (.tmp 26) 27 slBB8 rfl rfl rfl rfl rfl (u := .slice A3 t.length k3) rfl rfl rfl (by simp) rfl hro (by simp only [maxLen]; omega) (by omega) (by omega) ?_; intro v4 w4 ho4 hG4 hat4; refine wp_stop ?_)
      have hvb := hvb.keep (hG4.block _ hvb.lt (blk_row hvb hro (by decide)))
      have hz := hz.keep (hG4.block _ hz.lt (blk_row hz hro (by decide)))
      have hup := hup.keep (fun b hb hF => ⟨hF, hG4.block _ hb (fun h => by have := (hro.lt b h.symm).1; have h2 : b < w.heap.size := hF; omega)⟩)
      have hr2 := hr2.keep (fun b hb hF => ⟨hF, hG4.block _ hb (fun h => by have := (hro.lt b h.symm).1; have h2 := hF.2; omega)⟩)
      have hB := hB.grown hG4 hB.size (fun k hk => by have := (hro.lt k hk).1; omega)
      have hs4 := hG4.size
      have htx := (htx.keep (F' := fun b => w2.heap.size ≤ b ∧ v4.ownBlock ≠ some b) (fun b hb hF => ⟨⟨hF.1, by
          rcases hat4 with h | ⟨k, h, hk⟩
          · rw [h]; exact hF.2
          · rw [h]; intro h'; injection h' with h'; omega⟩, hG4.block b hb (fun h' => hF.2 h'.symm)⟩)).snoc (hr3.keep (F' := fun b => w2.heap.size ≤ b ∧ v4.ownBlock ≠ some b) (fun b hb hF => ⟨⟨by omega, by
          rcases hat4 with h | ⟨k, h, hk⟩
          · rw [h]; intro h'; have := hlv b h'; omega
          · rw [h]; intro h'; injection h' with h'; omega⟩, hG4.block b hb (by intro h'; have := hlv b h'.symm; omega)⟩))
      rw [← Htk.out] at htx
      clear hro hr3 hG4 hat4 Htk
      refine wp_go ?_
      go_wp2
      go_roundw
      case rel => exact ⟨i + 1, _, by omega, by go_num, ho4, htx, hvb, hz, hup, hr2, by omega, hB⟩
      case measure => simp [intOf]; omega
    · have hi' : i = m.ps.length := by omega
      subst hi'
      have hI : ¬ (m.ps.length : Int) < (m.ps.length : Int) := by omega
      rw [List.take_length] at htx
      have hrt := tx_own hro htx (fun b h => h.1)
      obtain ⟨A5, k5, rfl, _, _⟩ := hrt.slShape
      obtain ⟨A2, k2, rfl⟩ := hr2.shape
      have hwl : w1.heap.size ≤ w2.heap.size := by omega
      clear hro htx hup
      go_wp2_with (refine wp_st1 25 (.tmp 30) (.tmp 29) rfl rfl rfl (f := 37) rfl (v := .slice A2 m.b.length k2) rfl hvb (by rw [len_mg hh]; omega) sizeSl8 rfl rfl ?_; intro w5 hv5 hG5; refine wp_stop ?_)
      rw [mg_set37 hh] at hv5
      have hz := hz.keep (hG5.block _ hz.lt (by intro h; injection h with h; omega))
      have hrt := hrt.keep (fun b hb hF => ⟨hF, hG5.block _ hb (by intro h; injection h with h; omega)⟩)
      have hr2 := hr2.keep (fun b hb hF => ⟨hF, hG5.block _ hb (by intro h; injection h with h; have := hF.1; omega)⟩)
      have hB := hB.grown hG5 hB.size (by intro k hk; injection hk with hk; omega)
      clear hvb hG5
      refine wp_go ?_
      go_wp2_with (refine wp_st1 22 (.tmp 32) (.tmp 31) rfl rfl rfl (f := 38) rfl (v := .slice A5 m.ps.length k5) rfl hv5 (by rw [len_mg hh]; omega) sizeSS8 rfl rfl ?_; intro w6 hv6 hG6; refine wp_stop ?_)
      rw [mg_set38 hh] at hv6
      have hz := hz.keep (hG6.block _ hz.lt (by intro h; injection h with h; omega))
      have hrt := hrt.keep (fun b hb hF => ⟨hF, hG6.block _ hb (by intro h; injection h with h; omega)⟩)
      have hr2 := hr2.keep (fun b hb hF => ⟨hF, hG6.block _ hb (by intro h; injection h with h; have := hF.1; omega)⟩)
      have hB := hB.grown hG6 hB.size (by intro k hk; injection hk with hk; omega)
      clear hv5 hG6
      refine wp_go ?_
      go_wp2_with (first | (refine wp_ld 27 (.tmp 1) rfl rfl rfl hv6.whole Tryd.underlying27 rfl (by rw [len_mg hh]; exact sizeM) ?_) | (refine wp_st 27 (.tmp 2) (.tmp 33) rfl rfl rfl (f := 0) rfl (l := m.l (.slice A2 m.b.length k2) (.slice A5 m.ps.length k5)) rfl hz (by rw [len_mg hh, len_zM]; omega) (by rw [len_mg hh]; exact sizeM) one_mg ?_; intro w7 hv7 hG7; refine wp_stop ?_))
      have hv7 : Blk w7 gr 27 (m.l (.slice A2 m.b.length k2) (.slice A5 m.ps.length k5)) := by
        rw [List.take_zero, List.nil_append, List.drop_of_length_le (by rw [len_mg hh, len_zM]; omega), List.append_nil] at hv7
        exact hv7
      have hrt := hrt.keep (F' := fun b => w.heap.size ≤ b) (fun b hb hF => ⟨by omega, hG7.block _ hb (by intro h; injection h with h; omega)⟩)
      have hr2 := hr2.keep (F' := fun b => w.heap.size ≤ b) (fun b hb hF => ⟨by have := hF.1; omega, hG7.block _ hb (by intro h; injection h with h; have := hF.1; omega)⟩)
      have hB := hB.grown hG7 hB.size (by intro k hk; injection hk with hk; omega)
      refine wp_go ?_
      go_wp2
      refine ret_cell rfl rfl hv7.whole Tryd.underlying27 rfl (by rw [len_mg hh]; exact sizeM) rfl ?_
      exact ⟨_, _, rfl, hr2, hrt, hB⟩
end Go.Proofs.YtacjijhpbeegbaaDoor
