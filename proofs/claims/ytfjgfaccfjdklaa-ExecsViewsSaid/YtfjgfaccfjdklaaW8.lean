/- W8: layer 6: contracts of Next, by the program and by the document; the law ViewsNext. -/
import Derived.Test.YtfjgfaccfjdklaaW5
namespace Go.Proofs.Ytfjgfaccfjdklaa
open Go.RowKit Go.V
theorem zeroV : (Try.prog.info? 28).map (·.zero) = some (some (.agg [.int .i64 0, .int .u16 0].toArray)) := by kernel_rfl
theorem szM_0 : szM 0 = 0 := by decide
theorem rgt_ne {n : Int} {M : Nat} (h : rgt n M = true) : M ≠ 0 := by
  intro e
  subst e
  have := (rgt_sz h).2.2.1
  rw [szM_0] at this
  omega
/-- two views' cells -/
def vcs (n : Int) (M : Nat) : List Value := [.int .i64 n, .int .u16 (M : Int)]
set_option maxHeartbeats 400000 in
theorem ronly_any (n : Int) (M : Nat) (w : World) (h : M < 65536) :
    Calls Try.prog 22 #[vw n M] w fun e w' => e = .returned (if rgt n M then vw n M else vw 0 0) ∧ Below w.heap.size w w' := by
  have hrt := (right_any n M · h)
  obtain ⟨u, hu⟩ : ∃ u, u = (if rgt n M then vw n M else vw 0 0) := ⟨_, rfl⟩
  rw [← hu]
  have Hu := hid hu
  clear hu
  unfold vw at hrt Hu ⊢
  have hb0 := (Blk.new' w 28 [.int .i64 n, .int .u16 (M : Int)]).alloc (.cells #[.int .i64 0, .int .u16 0] 28)
  have hb1 := Blk.new' (w.alloc (.cells #[.int .i64 n, .int .u16 (M : Int)] 28)) 28 [.int .i64 0, .int .u16 0]
  have hB := ((Below.refl w.heap.size w).alloc (Nat.le_refl _) (.cells #[.int .i64 n, .int .u16 (M : Int)] 28)).alloc (by simp) (.cells #[.int .i64 0, .int .u16 0] 28)
  rw [show (w.alloc (.cells #[.int .i64 n, .int .u16 (M : Int)] 28)).heap.size = w.heap.size + 1 from by simp] at hb1
  go_enter Try.func22, Try.ntmps22
  go_wp2_with (fail)
  obtain ⟨w0, hw0⟩ : ∃ w0, w0 = (w.alloc (.cells #[.int .i64 n, .int .u16 (M : Int)] 28)).alloc (.cells #[.int .i64 0, .int .u16 0] 28) := ⟨_, rfl⟩
  rw [← hw0] at hb0 hb1 hB ⊢
  clear hw0
  obtain ⟨g, hg⟩ : ∃ g, g = w.heap.size := ⟨_, rfl⟩
  obtain ⟨g2, hg2⟩ : ∃ b, b = w.heap.size + 1 := ⟨_, rfl⟩
  rw [← hg] at hb0
  rw [← hg2] at hb1
  rw [← hg2, ← hg]
  have hg2w : w.heap.size ≤ g2 := by omega
  have hne : g2 ≠ g := by omega
  clear hg hg2
  refine (hrt _).mono ?_
  rintro e w1 ⟨rfl, hB1⟩
  have hc0 := hb0.below hB1
  have hc1 := hb1.below hB1
  have hB1' := hB.trans (hB1.mono hB.size)
  have c0 := hc0.cellAt 0 _ rfl
  have c1 := hc0.cellAt 1 _ rfl
  cases hr : rgt n M with
  | true =>
    rw [hr] at Hu
    clear hr
    go_wp2_with (refine wp_st 28 (.tmp 2) (.tmp 7) rfl rfl rfl (f := 0) rfl (l := [.int .i64 n, .int .u16 (M : Int)]) rfl hc1 (by simp) sizeV (by intro v hv; simp at hv; rcases hv with rfl | rfl <;> rfl) ?_; intro w2 hd2 hG2; refine wp_stop ?_)
    refine wp_go ?_
    go_wp2
    refine ret_cell rfl rfl hd2.whole Try.underlying28 rfl sizeV rfl ?_
    exact ⟨by rw [Hu.out]; rfl, hB1'.grown hG2 hB1'.size (by intro k hk; injection hk with hk; omega)⟩
  | false =>
    rw [hr] at Hu
    clear hr
    go_wp2_with (refine wp_st 28 (.tmp 2) (.tmp 6) rfl rfl rfl (f := 0) rfl (l := [.int .i64 0, .int .u16 0]) rfl hc1 (by simp) sizeV (by intro v hv; simp at hv; rcases hv with rfl | rfl <;> rfl) ?_; intro w2 hd2 hG2; refine wp_stop ?_)
    refine wp_go ?_
    go_wp2
    refine ret_cell rfl rfl hd2.whole Try.underlying28 rfl sizeV rfl ?_
    exact ⟨by rw [Hu.out]; rfl, hB1'.grown hG2 hB1'.size (by intro k hk; injection hk with hk; omega)⟩
/-- may the next view be that one? -/
def nxB (n : Int) (M : Nat) (k : Int) : Bool := rgt n M && decide (0 ≤ k ∧ k ≤ 65535) && rgt (n + 1) k.toNat
def nxR (n : Int) (M : Nat) (k : Int) : Value := if nxB n M k then .tuple #[vw (n + 1) k.toNat, .int .i64 0] else .tuple #[vw 0 0, .int .i64 3]
theorem nxR_no {n : Int} {M : Nat} {k : Int} (h : nxB n M k = false) : nxR n M k = .tuple #[.agg #[.int .i64 0, .int .u16 0], .int .i64 3] := by unfold nxR; rw [h]; rfl
set_option maxRecDepth 100000 in
set_option maxHeartbeats 1000000 in
theorem next_any (n : Int) (M : Nat) (k : Int) (w : World) (h : M < 65536) (_h1 : -9223372036854775808 ≤ k) (_h2 : k ≤ 9223372036854775807) :
    Calls Try.prog 19 #[vw n M, .int .i64 k] w fun e w' => e = .returned (nxR n M k) ∧ Below w.heap.size w w' := by
  have hrt := (right_any n M · h)
  have hro := (fun (q : Nat) W hq => ronly_any (n + 1) q W (hq : q < 65536))
  have hz := rgt_sz (n := n) (M := M)
  have hnb : nxB n M k = (rgt n M && decide (0 ≤ k ∧ k ≤ 65535) && rgt (n + 1) k.toNat) := rfl
  have hno := nxR_no (n := n) (M := M) (k := k)
  have hyes : nxB n M k = true → nxR n M k = .tuple #[vw (n + 1) k.toNat, .int .i64 0] := fun h => by unfold nxR; rw [if_pos h]
  obtain ⟨u, hu⟩ : ∃ u, u = nxR n M k := ⟨_, rfl⟩
  rw [← hu] at hno hyes ⊢
  clear hu
  unfold vw at hrt hro hyes ⊢
  have hb0 := (Blk.new' w 28 [.int .i64 n, .int .u16 (M : Int)]).alloc (.cells #[.int .i64 0, .int .u16 0] 28)
  have hb1 := Blk.new' (w.alloc (.cells #[.int .i64 n, .int .u16 (M : Int)] 28)) 28 [.int .i64 0, .int .u16 0]
  have hB := ((Below.refl w.heap.size w).alloc (Nat.le_refl _) (.cells #[.int .i64 n, .int .u16 (M : Int)] 28)).alloc (by simp) (.cells #[.int .i64 0, .int .u16 0] 28)
  rw [show (w.alloc (.cells #[.int .i64 n, .int .u16 (M : Int)] 28)).heap.size = w.heap.size + 1 from by simp] at hb1
  go_enter Try.func19, Try.ntmps19
  go_wp2_with (fail)
  obtain ⟨w0, hw0⟩ : ∃ w0, w0 = (w.alloc (.cells #[.int .i64 n, .int .u16 (M : Int)] 28)).alloc (.cells #[.int .i64 0, .int .u16 0] 28) := ⟨_, rfl⟩
  rw [← hw0] at hb0 hb1 hB ⊢
  clear hw0
  obtain ⟨g, hg⟩ : ∃ g, g = w.heap.size := ⟨_, rfl⟩
  obtain ⟨g2, hg2⟩ : ∃ b, b = w.heap.size + 1 := ⟨_, rfl⟩
  rw [← hg] at hb0
  rw [← hg2] at hb1
  rw [← hg2, ← hg]
  have hg2w : w.heap.size ≤ g2 := by omega
  have hne : g2 ≠ g := by omega
  clear hg hg2
  refine (hrt _).mono ?_
  rintro e w1 ⟨rfl, hB1⟩
  have hc0 := hb0.below hB1
  have hc1 := hb1.below hB1
  have hB1' := hB.trans (hB1.mono hB.size)
  have c0 := hc0.cellAt 0 _ rfl
  have c1 := hc0.cellAt 1 _ rfl
  by_cases hin : rgt n M = true ∧ 0 ≤ k ∧ k ≤ 65535
  · obtain ⟨hr, hk0, hk1⟩ := hin
    have hz := hz hr
    rw [hr, decide_eq_true ⟨hk0, hk1⟩, Bool.true_and, Bool.true_and] at hnb
    rw [hr]
    obtain ⟨q, rfl⟩ := Int.eq_ofNat_of_zero_le hk0
    rw [Int.toNat_natCast] at hnb hyes
    have hro1 := hro q
    clear hro
    have hq : q < 65536 := by omega
    have hr3 := fun hx => rgt_ne (n := n + 1) (M := q) hx
    obtain ⟨b3, hb3⟩ : ∃ b, b = rgt (n + 1) q := ⟨_, rfl⟩
    rw [← hb3] at hnb hr3 hro1
    clear hb3
    rw [hnb] at hno hyes
    have Hno := hid hno
    have Hyes := hid hyes
    clear hno hyes hnb hr
    have hd1 : decide ((q : Int) < 0) = false := decide_eq_false (by omega)
    have hd2 : decide ((65535 : Int) < (q : Int)) = false := decide_eq_false (by omega)
    have hq0 : b3 = true → ((q : Int) == 0) = false := fun hx => by rw [beq_eq_false_iff_ne]; have := hr3 hx; omega
    have hn0 : ((n + 1 : Int) == 0) = false := by rw [beq_eq_false_iff_ne]; omega
    go_wp2_with (fail)
    refine (hro1 _ hq).mono ?_
    rintro e w2 ⟨rfl, hB2⟩
    have hc2 := hc1.below hB2
    have hB2' := hB1'.trans (hB2.mono hB1'.size)
    have hg2l := hc2.lt
    have hsz2 := hB2'.size
    clear c0 c1 hc0 hc1
    cases b3 with
    | true =>
      rw [if_pos rfl]
      have hq1 := hq0 rfl
      clear hq0 hr3 hro1
      go_wp2_with (refine wp_st 28 (.tmp 4) (.tmp 30) rfl rfl rfl (f := 0) rfl (l := [.int .i64 (n + 1), .int .u16 (q : Int)]) rfl (hc2.alloc _) (by simp) sizeV (by intro v hv; simp at hv; rcases hv with rfl | rfl <;> rfl) ?_; intro w3 hd3 hG3; refine wp_stop ?_)
      refine wp_go ?_
      go_wp2
      refine ret_cell1 rfl rfl rfl hd3.whole Try.underlying28 rfl sizeV rfl ?_
      exact ⟨by rw [Hyes.out trivial]; rfl, (hB2'.alloc hB2'.size _).grown hG3 (by have := hB2'.size; simp; omega) (by intro k hk; injection hk with hk; omega)⟩
    | false =>
      rw [if_neg (by intro h; cases h)]
      clear hq0 hr3 hro1
      go_wp2_with (refine wp_st 28 (.tmp 4) (.tmp 29) rfl rfl rfl (f := 0) rfl (l := [.int .i64 0, .int .u16 0]) rfl (hc2.alloc _) (by simp) sizeV (by intro v hv; simp at hv; rcases hv with rfl | rfl <;> rfl) ?_; intro w3 hd3 hG3; refine wp_stop ?_)
      refine wp_go ?_
      go_wp2
      refine ret_cell1 rfl rfl rfl hd3.whole Try.underlying28 rfl sizeV rfl ?_
      exact ⟨by rw [Hno.out trivial]; rfl, (hB2'.alloc hB2'.size _).grown hG3 (by have := hB2'.size; simp; omega) (by intro k hk; injection hk with hk; omega)⟩
  · have hb : nxB n M k = false := by
      rw [hnb]
      cases hr : rgt n M with
      | false => rfl
      | true => rw [decide_eq_false (fun h => hin ⟨hr, h⟩)]; rfl
    have hno := hno hb
    have Hno := hid hno
    clear hno hyes hb hnb
    cases hr : rgt n M with
    | false =>
      clear hz hr hin
      go_wp2_with (refine wp_st 28 (.tmp 4) (.tmp 18) rfl rfl rfl (f := 0) rfl (l := [.int .i64 0, .int .u16 0]) rfl hc1 (by simp) sizeV (by intro v hv; simp at hv; rcases hv with rfl | rfl <;> rfl) ?_; intro w3 hd3 hG3; refine wp_stop ?_)
      refine wp_go ?_
      go_wp2
      refine ret_cell1 rfl rfl rfl hd3.whole Try.underlying28 rfl sizeV rfl ?_
      exact ⟨by rw [Hno.out]; rfl, hB1'.grown hG3 hB1'.size (by intro k hk; injection hk with hk; omega)⟩
    | true => 
      have hk : k < 0 ∨ 65535 < k := by
        rcases Int.lt_or_le k 0 with h1 | h1
        · exact .inl h1
        · exact .inr (by rcases Int.lt_or_le 65535 k with h2 | h2; exact h2; exact absurd ⟨hr, h1, h2⟩ hin)
      clear hz hr hin
      by_cases hk0 : k < 0
      · have hd1 : decide (k < 0) = true := decide_eq_true hk0
        go_wp2_with (refine wp_st 28 (.tmp 4) (.tmp 18) rfl rfl rfl (f := 0) rfl (l := [.int .i64 0, .int .u16 0]) rfl hc1 (by simp) sizeV (by intro v hv; simp at hv; rcases hv with rfl | rfl <;> rfl) ?_; intro w3 hd3 hG3; refine wp_stop ?_)
        refine wp_go ?_
        go_wp2
        refine ret_cell1 rfl rfl rfl hd3.whole Try.underlying28 rfl sizeV rfl ?_
        exact ⟨by rw [Hno.out]; rfl, hB1'.grown hG3 hB1'.size (by intro k hk; injection hk with hk; omega)⟩
      · have hd1 : decide (k < 0) = false := decide_eq_false hk0
        have hd2 : decide (65535 < k) = true := decide_eq_true (by omega)
        go_wp2_with (refine wp_st 28 (.tmp 4) (.tmp 18) rfl rfl rfl (f := 0) rfl (l := [.int .i64 0, .int .u16 0]) rfl hc1 (by simp) sizeV (by intro v hv; simp at hv; rcases hv with rfl | rfl <;> rfl) ?_; intro w3 hd3 hG3; refine wp_stop ?_)
        refine wp_go ?_
        go_wp2
        refine ret_cell1 rfl rfl rfl hd3.whole Try.underlying28 rfl sizeV rfl ?_
        exact ⟨by rw [Hno.out]; rfl, hB1'.grown hG3 hB1'.size (by intro k hk; injection hk with hk; omega)⟩
/-- the parts of what Next answers -/
def nxN (n : Int) (M : Nat) (k : Int) : Int := if nxB n M k then n + 1 else 0
def nxM (n : Int) (M : Nat) (k : Int) : Nat := if nxB n M k then k.toNat else 0
theorem nxR_eq (n : Int) (M : Nat) (k : Int) : nxR n M k = .tuple #[vw (nxN n M k) (nxM n M k), .int .i64 (if nxB n M k then 0 else 3)] := by
  unfold nxR nxN nxM
  cases nxB n M k <;> rfl
theorem nxB_spec {n : Int} {M : Nat} {k : Int} (h : nxB n M k = true) : rgt n M = true ∧ 0 ≤ k ∧ k ≤ 65535 ∧ rgt (n + 1) k.toNat = true := by
  unfold nxB at h
  rw [Bool.and_eq_true, Bool.and_eq_true, decide_eq_true_iff] at h
  exact ⟨h.1.1, h.1.2.1, h.1.2.2, h.2⟩
end Go.Proofs.Ytfjgfaccfjdklaa
