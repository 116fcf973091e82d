/- W8: layer 6: contracts of Next, by the program and by the document; the law ViewsNext. -/
import Derived.Test.YthibjdbjkkejeaaW5
namespace Go.Proofs.Ythibjdbjkkejeaa
open Go.RowKit Go.V
theorem zeroV : (Try.prog.info? 24).map (·.zero) = some (some (.agg [.int .i64 0, .int .u16 0].toArray)) := by kernel_rfl
theorem szM_0 : szM 0 = 0 := by decide
theorem rgt_ne {n : Int} {M : Nat} (h : rgt n M = true) : M ≠ 0 := by
  intro e
  subst e
  have := (rgt_sz h).2.2.1
  rw [szM_0] at this
  omega
/-- two views' cells -/
def vcs (n : Int) (M : Nat) : List Value := [.int .i64 n, .int .u16 (M : Int)]
set_option maxHeartbeats 400000 in
theorem ronly_any (n : Int) (M : Nat) (w : World) (h : M < 65536) :
    Calls Try.prog 40 #[vw n M] w fun e w' => e = .returned (if rgt n M then vw n M else vw 0 0) ∧ Below w.heap.size w w' := by
  have hrt := (right_any n M · h)
  obtain ⟨u, hu⟩ : ∃ u, u = (if rgt n M then vw n M else vw 0 0) := ⟨_, rfl⟩
  rw [← hu]
  have Hu := hid hu
  clear hu
  unfold vw at hrt Hu ⊢
  have hb0 := (Blk.new' w 24 [.int .i64 n, .int .u16 (M : Int)]).alloc (.cells #[.int .i64 0, .int .u16 0] 24)
  have hb1 := Blk.new' (w.alloc (.cells #[.int .i64 n, .int .u16 (M : Int)] 24)) 24 [.int .i64 0, .int .u16 0]
  have hB := ((Below.refl w.heap.size w).alloc (Nat.le_refl _) (.cells #[.int .i64 n, .int .u16 (M : Int)] 24)).alloc (by simp) (.cells #[.int .i64 0, .int .u16 0] 24)
  rw [show (w.alloc (.cells #[.int .i64 n, .int .u16 (M : Int)] 24)).heap.size = w.heap.size + 1 from by simp] at hb1
  go_enter Try.func40, Try.ntmps40
  go_wp2_with (fail)
  obtain ⟨w0, hw0⟩ : ∃ w0, w0 = (w.alloc (.cells #[.int .i64 n, .int .u16 (M : Int)] 24)).alloc (.cells #[.int .i64 0, .int .u16 0] 24) := ⟨_, rfl⟩
  rw [← hw0] at hb0 hb1 hB ⊢
  clear hw0
  obtain ⟨g, hg⟩ : ∃ g, g = w.heap.size := ⟨_, rfl⟩
  obtain ⟨g2, hg2⟩ : ∃ b, b = w.heap.size + 1 := ⟨_, rfl⟩
  rw [← hg] at hb0
  rw [← hg2] at hb1
  rw [← hg2, ← hg]
  have hg2w : w.heap.size ≤ g2 := by omega
  have hne : g2 ≠ g := by omega
  clear hg hg2
  refine (hrt _).mono ?_
  rintro e w1 ⟨rfl, hB1⟩
  have hc0 := hb0.below hB1
  have hc1 := hb1.below hB1
  have hB1' := hB.trans (hB1.mono hB.size)
  have c0 := hc0.cellAt 0 _ rfl
  have c1 := hc0.cellAt 1 _ rfl
  cases hr : rgt n M with
  | true =>
    rw [hr] at Hu
    clear hr
    go_wp2_with (refine wp_st 24 (.tmp 2) (.tmp 7) rfl rfl rfl (f := 0) rfl (l := [.int .i64 n, .int .u16 (M : Int)]) rfl hc1 (by simp) sizeV (by intro v hv; simp at hv; rcases hv with rfl | rfl <;> rfl) ?_; intro w2 hd2 hG2; refine wp_stop ?_)
    refine wp_go ?_
    go_wp2
    refine ret_cell rfl rfl hd2.whole Try.underlying24 rfl sizeV rfl ?_
    exact ⟨by rw [Hu.out]; rfl, hB1'.grown hG2 hB1'.size (by intro k hk; injection hk with hk; omega)⟩
  | false =>
    rw [hr] at Hu
    clear hr
    go_wp2_with (refine wp_st 24 (.tmp 2) (.tmp 6) rfl rfl rfl (f := 0) rfl (l := [.int .i64 0, .int .u16 0]) rfl hc1 (by simp) sizeV (by intro v hv; simp at hv; rcases hv with rfl | rfl <;> rfl) ?_; intro w2 hd2 hG2; refine wp_stop ?_)
    refine wp_go ?_
    go_wp2
    refine ret_cell rfl rfl hd2.whole Try.underlying24 rfl sizeV rfl ?_
    exact ⟨by rw [Hu.out]; rfl, hB1'.grown hG2 hB1'.size (by intro k hk; injection hk with hk; omega)⟩
/-- may the next view be that one? -/
def nxB (n : Int) (M : Nat) (k : Int) : Bool := rgt n M && decide (0 ≤ k ∧ k ≤ 65535) && rgt (n + 1) k.toNat
def nxR (n : Int) (M : Nat) (k : Int) : Value := if nxB n M k then .tuple #[vw (n + 1) k.toNat, .int .i64 0] else .tuple #[vw 0 0, .int .i64 3]
theorem nxR_no {n : Int} {M : Nat} {k : Int} (h : nxB n M k = false) : nxR n M k = .tuple #[.agg #[.int .i64 0, .int .u16 0], .int .i64 3] := by unfold nxR; rw [h]; rfl
set_option maxRecDepth 100000 in
set_option maxHeartbeats 1000000 in
theorem next_any (n : Int) (M : Nat) (k : Int) (w : World) (h : M < 65536) (_h1 : -9223372036854775808 ≤ k) (_h2 : k ≤ 9223372036854775807) :
    Calls Try.prog 32 #[vw n M, .int .i64 k] w fun e w' => e = .returned (nxR n M k) ∧ Below w.heap.size w w' := by
  have hrt := (right_any n M · h)
  have hro := (fun (q : Nat) W hq => ronly_any (n + 1) q W (hq : q < 65536))
  have hz := rgt_sz (n := n) (M := M)
  have hnb : nxB n M k = (rgt n M && decide (0 ≤ k ∧ k ≤ 65535) && rgt (n + 1) k.toNat) := rfl
  have hno := nxR_no (n := n) (M := M) (k := k)
  have hyes : nxB n M k = true → nxR n M k = .tuple #[vw (n + 1) k.toNat, .int .i64 0] := fun h => by unfold nxR; rw [if_pos h]
  obtain ⟨u, hu⟩ : ∃ u, u = nxR n M k := ⟨_, rfl⟩
  rw [← hu] at hno hyes ⊢
  clear hu
  unfold vw at hrt hro hyes ⊢
  have hb0 := (Blk.new' w 24 [.int .i64 n, .int .u16 (M : Int)]).alloc (.cells #[.int .i64 0, .int .u16 0] 24)
  have hb1 := Blk.new' (w.alloc (.cells #[.int .i64 n, .int .u16 (M : Int)] 24)) 24 [.int .i64 0, .int .u16 0]
  have hB := ((Below.refl w.heap.size w).alloc (Nat.le_refl _) (.cells #[.int .i64 n, .int .u16 (M : Int)] 24)).alloc (by simp) (.cells #[.int .i64 0, .int .u16 0] 24)
  rw [show (w.alloc (.cells #[.int .i64 n, .int .u16 (M : Int)] 24)).heap.size = w.heap.size + 1 from by simp] at hb1
  go_enter Try.func32, Try.ntmps32
  go_wp2_with (fail)
  obtain ⟨w0, hw0⟩ : ∃ w0, w0 = (w.alloc (.cells #[.int .i64 n, .int .u16 (M : Int)] 24)).alloc (.cells #[.int .i64 0, .int .u16 0] 24) := ⟨_, rfl⟩
  rw [← hw0] at hb0 hb1 hB ⊢
  clear hw0
  obtain ⟨g, hg⟩ : ∃ g, g = w.heap.size := ⟨_, rfl⟩
  obtain ⟨g2, hg2⟩ : ∃ b, b = w.heap.size + 1 := ⟨_, rfl⟩
  rw [← hg] at hb0
  rw [← hg2] at hb1
  rw [← hg2, ← hg]
  have hg2w : w.heap.size ≤ g2 := by omega
  have hne : g2 ≠ g := by omega
  clear hg hg2
  refine (hrt _).mono ?_
  rintro e w1 ⟨rfl, hB1⟩
  have hc0 := hb0.below hB1
  have hc1 := hb1.below hB1
  have hB1' := hB.trans (hB1.mono hB.size)
  have c0 := hc0.cellAt 0 _ rfl
  have c1 := hc0.cellAt 1 _ rfl
  by_cases hin : rgt n M = true ∧ 0 ≤ k ∧ k ≤ 65535
  · obtain ⟨hr, hk0, hk1⟩ := hin
    have hz := hz hr
    rw [hr, decide_eq_true ⟨hk0, hk1⟩, Bool.true_and, Bool.true_and] at hnb
    rw [hr]
    obtain ⟨q, rfl⟩ := Int.eq_ofNat_of_zero_le hk0
    rw [Int.toNat_natCast] at hnb hyes
    have hro1 := hro q
    clear hro
    have hq : q < 65536 := by omega
    have hr3 := fun hx => rgt_ne (n := n + 1) (M := q) hx
    obtain ⟨b3, hb3⟩ : ∃ b, b = rgt (n + 1) q := ⟨_, rfl⟩
    rw [← hb3] at hnb hr3 hro1
    clear hb3
    rw [hnb] at hno hyes
    have Hno := hid hno
    have Hyes := hid hyes
    clear hno hyes hnb hr
    have hd1 : decide ((q : Int) < 0) = false := decide_eq_false (by omega)
    have hd2 : decide ((65535 : Int) < (q : Int)) = false := decide_eq_false (by omega)
    have hq0 : b3 = true → ((q : Int) == 0) = false := fun hx => by rw [beq_eq_false_iff_ne]; have := hr3 hx; omega
    have hn0 : ((n + 1 : Int) == 0) = false := by rw [beq_eq_false_iff_ne]; omega
    go_wp2_with (fail)
    refine (hro1 _ hq).mono ?_
    rintro e w2 ⟨rfl, hB2⟩
    have hc2 := hc1.below hB2
    have hB2' := hB1'.trans (hB2.mono hB1'.size)
    have hg2l := hc2.lt
    have hsz2 := hB2'.size
    clear c0 c1 hc0 hc1
    cases b3 with
    | true =>
      rw [if_pos rfl]
      have hq1 := hq0 rfl
      clear hq0 hr3 hro1
      go_wp2_with (refine wp_st 24 (.tmp 4) (.tmp 30) rfl rfl rfl (f := 0) rfl (l := [.int .i64 (n + 1), .int .u16 (q : Int)]) rfl (hc2.alloc _) (by simp) sizeV (by intro v hv; simp at hv; rcases hv with rfl | rfl <;> rfl) ?_; intro w3 hd3 hG3; refine wp_stop ?_)
      refine wp_go ?_
      go_wp2
      refine ret_cell1 rfl rfl rfl hd3.whole Try.underlying24 rfl sizeV rfl ?_
      exact ⟨by rw [Hyes.out trivial]; rfl, (hB2'.alloc hB2'.size _).grown hG3 (by have := hB2'.size; simp; omega) (by intro k hk; injection hk with hk; omega)⟩
    | false =>
      rw [if_neg (by intro h; cases h)]
      clear hq0 hr3 hro1
      go_wp2_with (refine wp_st 24 (.tmp 4) (.tmp 29) rfl rfl rfl (f := 0) rfl (l := [.int .i64 0, .int .u16 0]) rfl (hc2.alloc _) (by simp) sizeV (by intro v hv; simp at hv; rcases hv with rfl | rfl <;> rfl) ?_; intro w3 hd3 hG3; refine wp_stop ?_)
      refine wp_go ?_
      go_wp2
      refine ret_cell1 rfl rfl rfl hd3.whole Try.underlying24 rfl sizeV rfl ?_
      exact ⟨by rw [Hno.out trivial]; rfl, (hB2'.alloc hB2'.size _).grown hG3 (by have := hB2'.size; simp; omega) (by intro k hk; injection hk with hk; omega)⟩
  · have hb : nxB n M k = false := by
      rw [hnb]
      cases hr : rgt n M with
      | false => rfl
      | true => rw [decide_eq_false (fun h => hin ⟨hr, h⟩)]; rfl
    have hno := hno hb
    have Hno := hid hno
    clear hno hyes hb hnb
    cases hr : rgt n M with
    | false =>
      clear hz hr hin
      go_wp2_with (refine wp_st 24 (.tmp 4) (.tmp 18) rfl rfl rfl (f := 0) rfl (l := [.int .i64 0, .int .u16 0]) rfl hc1 (by simp) sizeV (by intro v hv; simp at hv; rcases hv with rfl | rfl <;> rfl) ?_; intro w3 hd3 hG3; refine wp_stop ?_)
      refine wp_go ?_
      go_wp2
      refine ret_cell1 rfl rfl rfl hd3.whole Try.underlying24 rfl sizeV rfl ?_
      exact ⟨by rw [Hno.out]; rfl, hB1'.grown hG3 hB1'.size (by intro k hk; injection hk with hk; omega)⟩
    | true => 
      have hk : k < 0 ∨ 65535 < k := by
        rcases Int.lt_or_le k 0 with h1 | h1
        · exact .inl h1
        · exact .inr (by rcases Int.lt_or_le 65535 k with h2 | h2; exact h2; exact absurd ⟨hr, h1, h2⟩ hin)
      clear hz hr hin
      by_cases hk0 : k < 0
      · have hd1 : decide (k < 0) = true := decide_eq_true hk0
        go_wp2_with (refine wp_st 24 (.tmp 4) (.tmp 18) rfl rfl rfl (f := 0) rfl (l := [.int .i64 0, .int .u16 0]) rfl hc1 (by simp) sizeV (by intro v hv; simp at hv; rcases hv with rfl | rfl <;> rfl) ?_; intro w3 hd3 hG3; refine wp_stop ?_)
        refine wp_go ?_
        go_wp2
        refine ret_cell1 rfl rfl rfl hd3.whole Try.underlying24 rfl sizeV rfl ?_
        exact ⟨by rw [Hno.out]; rfl, hB1'.grown hG3 hB1'.size (by intro k hk; injection hk with hk; omega)⟩
      · have hd1 : decide (k < 0) = false := decide_eq_false hk0
        have hd2 : decide (65535 < k) = true := decide_eq_true (by omega)
        go_wp2_with (refine wp_st 24 (.tmp 4) (.tmp 18) rfl rfl rfl (f := 0) rfl (l := [.int .i64 0, .int .u16 0]) rfl hc1 (by simp) sizeV (by intro v hv; simp at hv; rcases hv with rfl | rfl <;> rfl) ?_; intro w3 hd3 hG3; refine wp_stop ?_)
        refine wp_go ?_
        go_wp2
        refine ret_cell1 rfl rfl rfl hd3.whole Try.underlying24 rfl sizeV rfl ?_
        exact ⟨by rw [Hno.out]; rfl, hB1'.grown hG3 hB1'.size (by intro k hk; injection hk with hk; omega)⟩
set_option maxRecDepth 100000 in
set_option maxHeartbeats 1000000 in
theorem rnext_any (n : Int) (M : Nat) (k : Int) (w : World) (h : M < 65536) (_h1 : -9223372036854775808 ≤ k) (_h2 : k ≤ 9223372036854775807) :
    Calls Try.prog 33 #[vw n M, .int .i64 k] w fun e w' => e = .returned (nxR n M k) ∧ Below w.heap.size w w' := by
  have hrt := (rright_any n M · h)
  have hro := (fun (q : Nat) W hq => rright_any (n + 1) q W (hq : q < 65536))
  have hz := rgt_sz (n := n) (M := M)
  have hnb : nxB n M k = (rgt n M && decide (0 ≤ k ∧ k ≤ 65535) && rgt (n + 1) k.toNat) := rfl
  have hno := nxR_no (n := n) (M := M) (k := k)
  have hyes : nxB n M k = true → nxR n M k = .tuple #[vw (n + 1) k.toNat, .int .i64 0] := fun h => by unfold nxR; rw [if_pos h]
  obtain ⟨u, hu⟩ : ∃ u, u = nxR n M k := ⟨_, rfl⟩
  rw [← hu] at hno hyes ⊢
  clear hu
  unfold vw at hrt hro hyes ⊢
  have hb0 := (Blk.new' w 24 [.int .i64 n, .int .u16 (M : Int)]).alloc (.cells #[.int .i64 0, .int .u16 0] 24)
  have hb1 := Blk.new' (w.alloc (.cells #[.int .i64 n, .int .u16 (M : Int)] 24)) 24 [.int .i64 0, .int .u16 0]
  have hB := ((Below.refl w.heap.size w).alloc (Nat.le_refl _) (.cells #[.int .i64 n, .int .u16 (M : Int)] 24)).alloc (by simp) (.cells #[.int .i64 0, .int .u16 0] 24)
  rw [show (w.alloc (.cells #[.int .i64 n, .int .u16 (M : Int)] 24)).heap.size = w.heap.size + 1 from by simp] at hb1
  go_enter Try.func33, Try.ntmps33
  go_wp2_with (fail)
  obtain ⟨w0, hw0⟩ : ∃ w0, w0 = (w.alloc (.cells #[.int .i64 n, .int .u16 (M : Int)] 24)).alloc (.cells #[.int .i64 0, .int .u16 0] 24) := ⟨_, rfl⟩
  rw [← hw0] at hb0 hb1 hB ⊢
  clear hw0
  obtain ⟨g, hg⟩ : ∃ g, g = w.heap.size := ⟨_, rfl⟩
  obtain ⟨g2, hg2⟩ : ∃ b, b = w.heap.size + 1 := ⟨_, rfl⟩
  rw [← hg] at hb0
  rw [← hg2] at hb1
  rw [← hg2, ← hg]
  have hg2w : w.heap.size ≤ g2 := by omega
  have hne : g2 ≠ g := by omega
  clear hg hg2
  refine (hrt _).mono ?_
  rintro e w1 ⟨rfl, hB1⟩
  have hc0 := hb0.below hB1
  have hc1 := hb1.below hB1
  have hB1' := hB.trans (hB1.mono hB.size)
  have c0 := hc0.cellAt 0 _ rfl
  have c1 := hc0.cellAt 1 _ rfl
  by_cases hin : rgt n M = true ∧ 0 ≤ k ∧ k ≤ 65535
  · obtain ⟨hr, hk0, hk1⟩ := hin
    have hz := hz hr
    rw [hr, decide_eq_true ⟨hk0, hk1⟩, Bool.true_and, Bool.true_and] at hnb
    rw [hr]
    obtain ⟨q, rfl⟩ := Int.eq_ofNat_of_zero_le hk0
    rw [Int.toNat_natCast] at hnb hyes
    have hro1 := hro q
    clear hro
    have hq : q < 65536 := by omega
    have hr3 := fun hx => rgt_ne (n := n + 1) (M := q) hx
    obtain ⟨b3, hb3⟩ : ∃ b, b = rgt (n + 1) q := ⟨_, rfl⟩
    rw [← hb3] at hnb hr3 hro1
    clear hb3
    rw [hnb] at hno hyes
    have Hno := hid hno
    have Hyes := hid hyes
    clear hno hyes hnb hr
    have hd1 : decide ((q : Int) < 0) = false := decide_eq_false (by omega)
    have hd2 : decide ((65535 : Int) < (q : Int)) = false := decide_eq_false (by omega)
    have hq0 : b3 = true → ((q : Int) == 0) = false := fun hx => by rw [beq_eq_false_iff_ne]; have := hr3 hx; omega
    have hn0 : ((n + 1 : Int) == 0) = false := by rw [beq_eq_false_iff_ne]; omega
    go_wp2_with (fail)
    have hn3 := Blk.new' w1 24 [.int .i64 (n + 1), .int .u16 (q : Int)]
    have hc1 := hc1.alloc (.cells #[.int .i64 (n + 1), .int .u16 (q : Int)] 24)
    have hB2 := hB1'.alloc hB1'.size (.cells #[.int .i64 (n + 1), .int .u16 (q : Int)] 24)
    obtain ⟨w2, hw2⟩ : ∃ w2, w2 = w1.alloc (.cells #[.int .i64 (n + 1), .int .u16 (q : Int)] 24) := ⟨_, rfl⟩
    rw [← hw2] at hn3 hc1 hB2 ⊢
    obtain ⟨g3, hg3⟩ : ∃ b, b = w1.heap.size := ⟨_, rfl⟩
    rw [← hg3] at hn3 ⊢
    clear hw2 hg3
    refine (hro1 _ hq).mono ?_
    rintro e w3 ⟨rfl, hB3⟩
    have hn4 := hn3.below hB3
    have hc4 := hc1.below hB3
    have hB3' := hB2.trans (hB3.mono hB2.size)
    clear c0 c1 hc0 hc1
    have c0 := hn4.cellAt 0 _ rfl
    have c1 := hn4.cellAt 1 _ rfl
    cases b3 with
    | true =>
      clear hq0 hr3 hro1
      go_wp2_with (refine wp_st 24 (.tmp 4) (.tmp 29) rfl rfl rfl (f := 0) rfl (l := [.int .i64 (n + 1), .int .u16 (q : Int)]) rfl hc4 (by simp) sizeV (by intro v hv; simp at hv; rcases hv with rfl | rfl <;> rfl) ?_; intro w5 hd3 hG3; refine wp_stop ?_)
      refine wp_go ?_
      go_wp2
      refine ret_cell1 rfl rfl rfl hd3.whole Try.underlying24 rfl sizeV rfl ?_
      exact ⟨by rw [Hyes.out trivial]; rfl, hB3'.grown hG3 hB3'.size (by intro k hk; injection hk with hk; omega)⟩
    | false =>
      clear hq0 hr3 hro1
      go_wp2_with (refine wp_st 24 (.tmp 4) (.tmp 28) rfl rfl rfl (f := 0) rfl (l := [.int .i64 0, .int .u16 0]) rfl hc4 (by simp) sizeV (by intro v hv; simp at hv; rcases hv with rfl | rfl <;> rfl) ?_; intro w5 hd3 hG3; refine wp_stop ?_)
      refine wp_go ?_
      go_wp2
      refine ret_cell1 rfl rfl rfl hd3.whole Try.underlying24 rfl sizeV rfl ?_
      exact ⟨by rw [Hno.out trivial]; rfl, hB3'.grown hG3 hB3'.size (by intro k hk; injection hk with hk; omega)⟩
  · have hb : nxB n M k = false := by
      rw [hnb]
      cases hr : rgt n M with
      | false => rfl
      | true => rw [decide_eq_false (fun h => hin ⟨hr, h⟩)]; rfl
    have hno := hno hb
    have Hno := hid hno
    clear hno hyes hb hnb
    cases hr : rgt n M with
    | false =>
      clear hz hr hin
      go_wp2_with (refine wp_st 24 (.tmp 4) (.tmp 18) rfl rfl rfl (f := 0) rfl (l := [.int .i64 0, .int .u16 0]) rfl hc1 (by simp) sizeV (by intro v hv; simp at hv; rcases hv with rfl | rfl <;> rfl) ?_; intro w3 hd3 hG3; refine wp_stop ?_)
      refine wp_go ?_
      go_wp2
      refine ret_cell1 rfl rfl rfl hd3.whole Try.underlying24 rfl sizeV rfl ?_
      exact ⟨by rw [Hno.out]; rfl, hB1'.grown hG3 hB1'.size (by intro k hk; injection hk with hk; omega)⟩
    | true => 
      have hk : k < 0 ∨ 65535 < k := by
        rcases Int.lt_or_le k 0 with h1 | h1
        · exact .inl h1
        · exact .inr (by rcases Int.lt_or_le 65535 k with h2 | h2; exact h2; exact absurd ⟨hr, h1, h2⟩ hin)
      clear hz hr hin
      by_cases hk0 : k < 0
      · have hd1 : decide (k < 0) = true := decide_eq_true hk0
        go_wp2_with (refine wp_st 24 (.tmp 4) (.tmp 18) rfl rfl rfl (f := 0) rfl (l := [.int .i64 0, .int .u16 0]) rfl hc1 (by simp) sizeV (by intro v hv; simp at hv; rcases hv with rfl | rfl <;> rfl) ?_; intro w3 hd3 hG3; refine wp_stop ?_)
        refine wp_go ?_
        go_wp2
        refine ret_cell1 rfl rfl rfl hd3.whole Try.underlying24 rfl sizeV rfl ?_
        exact ⟨by rw [Hno.out]; rfl, hB1'.grown hG3 hB1'.size (by intro k hk; injection hk with hk; omega)⟩
      · have hd1 : decide (k < 0) = false := decide_eq_false hk0
        have hd2 : decide (65535 < k) = true := decide_eq_true (by omega)
        go_wp2_with (refine wp_st 24 (.tmp 4) (.tmp 18) rfl rfl rfl (f := 0) rfl (l := [.int .i64 0, .int .u16 0]) rfl hc1 (by simp) sizeV (by intro v hv; simp at hv; rcases hv with rfl | rfl <;> rfl) ?_; intro w3 hd3 hG3; refine wp_stop ?_)
        refine wp_go ?_
        go_wp2
        refine ret_cell1 rfl rfl rfl hd3.whole Try.underlying24 rfl sizeV rfl ?_
        exact ⟨by rw [Hno.out]; rfl, hB1'.grown hG3 hB1'.size (by intro k hk; injection hk with hk; omega)⟩
/-- the parts of what Next answers -/
def nxN (n : Int) (M : Nat) (k : Int) : Int := if nxB n M k then n + 1 else 0
def nxM (n : Int) (M : Nat) (k : Int) : Nat := if nxB n M k then k.toNat else 0
theorem nxR_eq (n : Int) (M : Nat) (k : Int) : nxR n M k = .tuple #[vw (nxN n M k) (nxM n M k), .int .i64 (if nxB n M k then 0 else 3)] := by
  unfold nxR nxN nxM
  cases nxB n M k <;> rfl
theorem nxB_spec {n : Int} {M : Nat} {k : Int} (h : nxB n M k = true) : rgt n M = true ∧ 0 ≤ k ∧ k ≤ 65535 ∧ rgt (n + 1) k.toNat = true := by
  unfold nxB at h
  rw [Bool.and_eq_true, Bool.and_eq_true, decide_eq_true_iff] at h
  exact ⟨h.1.1, h.1.2.1, h.1.2.2, h.2⟩
set_option maxRecDepth 100000 in
set_option maxHeartbeats 1000000 in
theorem viewsNext_law (n : Int) (M : Nat) (k : Int) (w : World) (h : M < 65536) (h1 : -9223372036854775808 ≤ k) (h2 : k ≤ 9223372036854775807) :
    Calls Try.prog 6 #[vw n M, .int .i64 k] w fun e w' => e = .returned (.bool true) ∧ Below w.heap.size w w' := by
  have hn := (next_any n M k · h h1 h2)
  have hr := (rnext_any n M k · h h1 h2)
  have hsp := nxB_spec (n := n) (M := M) (k := k)
  have hz := rgt_sz (n := n) (M := M)
  have hvb := Blk.new' w 24 [.int .i64 n, .int .u16 (M : Int)]
  have hB : Below w.heap.size w (w.alloc (.cells #[.int .i64 n, .int .u16 (M : Int)] 24)) := (Below.refl _ _).alloc (Nat.le_refl _) _
  cases hb : nxB n M k with
  | true =>
    obtain ⟨hr1, hk0, hk1, hr2⟩ := hsp hb
    have hz1 := hz hr1
    have e : nxR n M k = .tuple #[vw (n + 1) k.toNat, .int .i64 0] := by unfold nxR; rw [hb]; rfl
    rw [e] at hn hr
    obtain ⟨q, rfl⟩ := Int.eq_ofNat_of_zero_le hk0
    rw [Int.toNat_natCast] at hn hr hr2
    have hrt := (right_any (n + 1) q · (by omega))
    rw [hr2] at hrt
    unfold vw at hn hr hrt ⊢
    have hn60 : n ≤ 60 := hz1.2.1
    have hn0 : 0 ≤ n := hz1.1
    clear hsp hz hb hr1 hr2 e hz1
    go_enter Try.func6, Try.ntmps6
    go_wp2_with (fail)
    obtain ⟨w0, hw0⟩ : ∃ w0, w0 = w.alloc (.cells #[.int .i64 n, .int .u16 (M : Int)] 24) := ⟨_, rfl⟩
    rw [← hw0] at hvb hB ⊢
    clear hw0
    obtain ⟨g, hg⟩ : ∃ g, g = w.heap.size := ⟨_, rfl⟩
    rw [← hg] at hvb ⊢
    clear hg
    refine (wakes6_any _).mono ?_
    rintro e w1 ⟨rfl, hB1⟩
    have hv1 := hvb.below hB1
    have hB1' := hB.trans (hB1.mono hB.size)
    have c0 := hv1.cellAt 0 _ rfl
    have c1 := hv1.cellAt 1 _ rfl
    go_wp2_with (fail)
    refine (hn _).mono ?_
    rintro e w2 ⟨rfl, hB2⟩
    have hB2' := hB1'.trans (hB2.mono hB1'.size)
    have hv2 := (hv1.below hB2).alloc (.cells #[.int .i64 (n + 1), .int .u16 (q : Int)] 24)
    have hx2 := Blk.new' w2 24 [.int .i64 (n + 1), .int .u16 (q : Int)]
    have hB3 := hB2'.alloc hB2'.size (.cells #[.int .i64 (n + 1), .int .u16 (q : Int)] 24)
    have hgl := (hv1.below hB2).lt
    clear c0 c1 hv1 hvb
    go_wp2_with (with_reducible refine wp_at 18 rfl ?_)
    obtain ⟨w3, hw3⟩ : ∃ w3, w3 = w2.alloc (.cells #[.int .i64 (n + 1), .int .u16 (q : Int)] 24) := ⟨_, rfl⟩
    rw [← hw3] at hv2 hx2 hB3 ⊢
    obtain ⟨g3, hg3⟩ : ∃ b, b = w2.heap.size := ⟨_, rfl⟩
    rw [← hg3] at hx2 ⊢
    clear hw3 hg3
    have c0 := hv2.cellAt 0 _ rfl
    have c1 := hv2.cellAt 1 _ rfl
    refine wp_on ?_
    go_wp2_with (fail)
    refine (hr _).mono ?_
    rintro e w4 ⟨rfl, hB4⟩
    have hB4' := hB3.trans (hB4.mono hB3.size)
    have hv4 := (hv2.below hB4).alloc (.cells #[.int .i64 (n + 1), .int .u16 (q : Int)] 24)
    have hx4 := (hx2.below hB4).alloc (.cells #[.int .i64 (n + 1), .int .u16 (q : Int)] 24)
    have hy4 := Blk.new' w4 24 [.int .i64 (n + 1), .int .u16 (q : Int)]
    have hB5 := hB4'.alloc hB4'.size (.cells #[.int .i64 (n + 1), .int .u16 (q : Int)] 24)
    clear c0 c1 hv2 hx2
    go_wp2_with (with_reducible refine wp_at 23 rfl ?_)
    obtain ⟨w5, hw5⟩ : ∃ w5, w5 = w4.alloc (.cells #[.int .i64 (n + 1), .int .u16 (q : Int)] 24) := ⟨_, rfl⟩
    rw [← hw5] at hv4 hx4 hy4 hB5 ⊢
    obtain ⟨g5, hg5⟩ : ∃ b, b = w4.heap.size := ⟨_, rfl⟩
    rw [← hg5] at hy4 ⊢
    clear hw5 hg5
    have c0 := hv4.cellAt 0 _ rfl
    have c1 := hv4.cellAt 1 _ rfl
    have d0 := hx4.cellAt 0 _ rfl
    have d1 := hx4.cellAt 1 _ rfl
    have e0 := hy4.cellAt 0 _ rfl
    have e1 := hy4.cellAt 1 _ rfl
    refine wp_on ?_
    go_wp2_with (fail)
    refine (hrt _).mono ?_
    rintro e w6 ⟨rfl, hB6⟩
    go_wp2
    go_ret
    exact ⟨rfl, hB5.trans (hB6.mono hB5.size)⟩
  | false =>
    have e : nxR n M k = .tuple #[vw 0 0, .int .i64 3] := by unfold nxR; rw [hb]; rfl
    rw [e] at hn hr
    unfold vw at hn hr ⊢
    clear hsp hz hb e
    go_enter Try.func6, Try.ntmps6
    go_wp2_with (fail)
    obtain ⟨w0, hw0⟩ : ∃ w0, w0 = w.alloc (.cells #[.int .i64 n, .int .u16 (M : Int)] 24) := ⟨_, rfl⟩
    rw [← hw0] at hvb hB ⊢
    clear hw0
    obtain ⟨g, hg⟩ : ∃ g, g = w.heap.size := ⟨_, rfl⟩
    rw [← hg] at hvb ⊢
    clear hg
    refine (wakes6_any _).mono ?_
    rintro e w1 ⟨rfl, hB1⟩
    have hv1 := hvb.below hB1
    have hB1' := hB.trans (hB1.mono hB.size)
    have c0 := hv1.cellAt 0 _ rfl
    have c1 := hv1.cellAt 1 _ rfl
    go_wp2_with (fail)
    refine (hn _).mono ?_
    rintro e w2 ⟨rfl, hB2⟩
    have hB2' := hB1'.trans (hB2.mono hB1'.size)
    have hv2 := (hv1.below hB2).alloc (.cells #[.int .i64 0, .int .u16 0] 24)
    have hx2 := Blk.new' w2 24 [.int .i64 0, .int .u16 0]
    have hB3 := hB2'.alloc hB2'.size (.cells #[.int .i64 0, .int .u16 0] 24)
    have hgl := (hv1.below hB2).lt
    clear c0 c1 hv1 hvb
    go_wp2_with (with_reducible refine wp_at 18 rfl ?_)
    obtain ⟨w3, hw3⟩ : ∃ w3, w3 = w2.alloc (.cells #[.int .i64 0, .int .u16 0] 24) := ⟨_, rfl⟩
    rw [← hw3] at hv2 hx2 hB3 ⊢
    obtain ⟨g3, hg3⟩ : ∃ b, b = w2.heap.size := ⟨_, rfl⟩
    rw [← hg3] at hx2 ⊢
    clear hw3 hg3
    have c0 := hv2.cellAt 0 _ rfl
    have c1 := hv2.cellAt 1 _ rfl
    refine wp_on ?_
    go_wp2_with (fail)
    refine (hr _).mono ?_
    rintro e w4 ⟨rfl, hB4⟩
    have hB4' := hB3.trans (hB4.mono hB3.size)
    have hv4 := (hv2.below hB4).alloc (.cells #[.int .i64 0, .int .u16 0] 24)
    have hx4 := (hx2.below hB4).alloc (.cells #[.int .i64 0, .int .u16 0] 24)
    have hy4 := Blk.new' w4 24 [.int .i64 0, .int .u16 0]
    have hB5 := hB4'.alloc hB4'.size (.cells #[.int .i64 0, .int .u16 0] 24)
    clear c0 c1 hv2 hx2
    go_wp2_with (with_reducible refine wp_at 23 rfl ?_)
    obtain ⟨w5, hw5⟩ : ∃ w5, w5 = w4.alloc (.cells #[.int .i64 0, .int .u16 0] 24) := ⟨_, rfl⟩
    rw [← hw5] at hv4 hx4 hy4 hB5 ⊢
    obtain ⟨g5, hg5⟩ : ∃ b, b = w4.heap.size := ⟨_, rfl⟩
    rw [← hg5] at hy4 ⊢
    clear hw5 hg5
    have c0 := hv4.cellAt 0 _ rfl
    have c1 := hv4.cellAt 1 _ rfl
    have d0 := hx4.cellAt 0 _ rfl
    have d1 := hx4.cellAt 1 _ rfl
    have e0 := hy4.cellAt 0 _ rfl
    have e1 := hy4.cellAt 1 _ rfl
    refine wp_on ?_
    go_wp2
    go_ret
    exact ⟨rfl, hB5⟩
end Go.Proofs.Ythibjdbjkkejeaa
