/- DN: layer 10: the law DiskNil. -/
import Derived.Test.YtjaiffefgjopmaaDW
import Derived.Test.YtjaiffefgjopmaaFA
namespace Go.Proofs.Ytjaiffefgjopmaa
open Go.RowKit Go.V
set_option maxRecDepth 100000 in
set_option maxHeartbeats 2000000 in
theorem don_0 (a : Ac) (A : Option Addr) (n c : Nat) (w : World) (hk : a.k = 0) :
    Calls Try.prog 14 #[.pointer none, .agg (a.l (.slice A n c)).toArray] w fun e w' => e = .returned (.tuple #[.pointer none, .int .i64 16]) ∧ Below w.heap.size w w' := by
  have hab := Blk.new' w 34 (a.l (.slice A n c))
  have hB : Below w.heap.size w (w.alloc (.cells (a.l (.slice A n c)).toArray 34)) := (Below.refl _ _).alloc (Nat.le_refl _) _
  have e0 : (a.k == 0) = true := by rw [hk]; rfl
  have k0 := hab.cellAt 0 _ rfl
  have k1 := hab.cellAt 1 _ rfl
  have k2 := hab.cellAt 2 _ rfl
  have k3 := hab.cellAt 3 _ rfl
  have k5 := hab.cellAt 7 _ rfl
  go_enter Try.func14, Try.ntmps14
  go_wp2_with (fail)
  obtain ⟨w1, hw1⟩ : ∃ y, y = w.alloc (.cells (a.l (.slice A n c)).toArray 34) := ⟨_, rfl⟩
  rw [← hw1] at hB ⊢
  clear hw1 hab k0 k1 k2 k3 k5
  refine (append10_nil a.n A n c _).mono ?_
  rintro e w2 ⟨rfl, hB2⟩
  go_wp2
  go_ret2
  exact ⟨rfl, hB.trans (hB2.mono hB.size)⟩
set_option maxRecDepth 100000 in
set_option maxHeartbeats 2000000 in
theorem don_1 (a : Ac) (A : Option Addr) (n c : Nat) (w : World) (hk : a.k = 1) :
    Calls Try.prog 14 #[.pointer none, .agg (a.l (.slice A n c)).toArray] w fun e w' => e = .returned (.tuple #[.pointer none, .int .i64 16]) ∧ Below w.heap.size w w' := by
  have hab := Blk.new' w 34 (a.l (.slice A n c))
  have hB : Below w.heap.size w (w.alloc (.cells (a.l (.slice A n c)).toArray 34)) := (Below.refl _ _).alloc (Nat.le_refl _) _
  have e0 : (a.k == 0) = false := by rw [hk]; rfl
  have e1 : (a.k == 1) = true := by rw [hk]; rfl
  have k0 := hab.cellAt 0 _ rfl
  have k1 := hab.cellAt 1 _ rfl
  have k2 := hab.cellAt 2 _ rfl
  have k3 := hab.cellAt 3 _ rfl
  have k5 := hab.cellAt 7 _ rfl
  go_enter Try.func14, Try.ntmps14
  go_wp2_with (fail)
  obtain ⟨w1, hw1⟩ : ∃ y, y = w.alloc (.cells (a.l (.slice A n c)).toArray 34) := ⟨_, rfl⟩
  rw [← hw1] at hB ⊢
  clear hw1 hab k0 k1 k2 k3 k5
  refine (write10_nil a.n A n c _).mono ?_
  rintro e w2 ⟨rfl, hB2⟩
  go_wp2
  go_ret2
  exact ⟨rfl, hB.trans (hB2.mono hB.size)⟩
set_option maxRecDepth 100000 in
set_option maxHeartbeats 2000000 in
theorem don_2 (a : Ac) (A : Option Addr) (n c : Nat) (w : World) (hk : a.k = 2) :
    Calls Try.prog 14 #[.pointer none, .agg (a.l (.slice A n c)).toArray] w fun e w' => e = .returned (.tuple #[.pointer none, .int .i64 16]) ∧ Below w.heap.size w w' := by
  have hab := Blk.new' w 34 (a.l (.slice A n c))
  have hB : Below w.heap.size w (w.alloc (.cells (a.l (.slice A n c)).toArray 34)) := (Below.refl _ _).alloc (Nat.le_refl _) _
  have e0 : (a.k == 0) = false := by rw [hk]; rfl
  have e1 : (a.k == 1) = false := by rw [hk]; rfl
  have e2 : (a.k == 2) = true := by rw [hk]; rfl
  have k0 := hab.cellAt 0 _ rfl
  have k1 := hab.cellAt 1 _ rfl
  have k2 := hab.cellAt 2 _ rfl
  have k3 := hab.cellAt 3 _ rfl
  have k5 := hab.cellAt 7 _ rfl
  go_enter Try.func14, Try.ntmps14
  go_wp2_with (fail)
  obtain ⟨w1, hw1⟩ : ∃ y, y = w.alloc (.cells (a.l (.slice A n c)).toArray 34) := ⟨_, rfl⟩
  rw [← hw1] at hB ⊢
  clear hw1 hab k0 k1 k2 k3 k5
  refine (rename10_nil a.n a.t _).mono ?_
  rintro e w2 ⟨rfl, hB2⟩
  go_wp2
  go_ret2
  exact ⟨rfl, hB.trans (hB2.mono hB.size)⟩
set_option maxRecDepth 100000 in
set_option maxHeartbeats 2000000 in
theorem don_3 (a : Ac) (A : Option Addr) (n c : Nat) (w : World) (hk : a.k = 3) :
    Calls Try.prog 14 #[.pointer none, .agg (a.l (.slice A n c)).toArray] w fun e w' => e = .returned (.tuple #[.pointer none, .int .i64 16]) ∧ Below w.heap.size w w' := by
  have hab := Blk.new' w 34 (a.l (.slice A n c))
  have hB : Below w.heap.size w (w.alloc (.cells (a.l (.slice A n c)).toArray 34)) := (Below.refl _ _).alloc (Nat.le_refl _) _
  have e0 : (a.k == 0) = false := by rw [hk]; rfl
  have e1 : (a.k == 1) = false := by rw [hk]; rfl
  have e2 : (a.k == 2) = false := by rw [hk]; rfl
  have e3 : (a.k == 3) = true := by rw [hk]; rfl
  have k0 := hab.cellAt 0 _ rfl
  have k1 := hab.cellAt 1 _ rfl
  have k2 := hab.cellAt 2 _ rfl
  have k3 := hab.cellAt 3 _ rfl
  have k5 := hab.cellAt 7 _ rfl
  go_enter Try.func14, Try.ntmps14
  go_wp2_with (fail)
  obtain ⟨w1, hw1⟩ : ∃ y, y = w.alloc (.cells (a.l (.slice A n c)).toArray 34) := ⟨_, rfl⟩
  rw [← hw1] at hB ⊢
  clear hw1 hab k0 k1 k2 k3 k5
  refine (delete10_nil a.n _).mono ?_
  rintro e w2 ⟨rfl, hB2⟩
  go_wp2
  go_ret2
  exact ⟨rfl, hB.trans (hB2.mono hB.size)⟩
set_option maxRecDepth 100000 in
set_option maxHeartbeats 2000000 in
theorem don_4 (a : Ac) (A : Option Addr) (n c : Nat) (w : World) (hk : a.k = 4) :
    Calls Try.prog 14 #[.pointer none, .agg (a.l (.slice A n c)).toArray] w fun e w' => e = .returned (.tuple #[.pointer none, .int .i64 0]) ∧ Below w.heap.size w w' := by
  have hab := Blk.new' w 34 (a.l (.slice A n c))
  have hB : Below w.heap.size w (w.alloc (.cells (a.l (.slice A n c)).toArray 34)) := (Below.refl _ _).alloc (Nat.le_refl _) _
  have e0 : (a.k == 0) = false := by rw [hk]; rfl
  have e1 : (a.k == 1) = false := by rw [hk]; rfl
  have e2 : (a.k == 2) = false := by rw [hk]; rfl
  have e3 : (a.k == 3) = false := by rw [hk]; rfl
  have e4 : (a.k == 4) = true := by rw [hk]; rfl
  have k0 := hab.cellAt 0 _ rfl
  have k1 := hab.cellAt 1 _ rfl
  have k2 := hab.cellAt 2 _ rfl
  have k3 := hab.cellAt 3 _ rfl
  have k5 := hab.cellAt 7 _ rfl
  go_enter Try.func14, Try.ntmps14
  go_wp2_with (fail)
  obtain ⟨w1, hw1⟩ : ∃ y, y = w.alloc (.cells (a.l (.slice A n c)).toArray 34) := ⟨_, rfl⟩
  rw [← hw1] at hB ⊢
  clear hw1 hab k0 k1 k2 k3 k5
  refine (sync10_nil _).mono ?_
  rintro e w2 ⟨rfl, hB2⟩
  go_wp2
  go_ret2
  exact ⟨rfl, hB.trans (hB2.mono hB.size)⟩
set_option maxRecDepth 100000 in
set_option maxHeartbeats 2000000 in
theorem don_5 (a : Ac) (A : Option Addr) (n c : Nat) (w : World) (hk : a.k = 5) :
    Calls Try.prog 14 #[.pointer none, .agg (a.l (.slice A n c)).toArray] w fun e w' => e = .returned (.tuple #[.pointer none, .int .i64 0]) ∧ Below w.heap.size w w' := by
  have hab := Blk.new' w 34 (a.l (.slice A n c))
  have hB : Below w.heap.size w (w.alloc (.cells (a.l (.slice A n c)).toArray 34)) := (Below.refl _ _).alloc (Nat.le_refl _) _
  have e0 : (a.k == 0) = false := by rw [hk]; rfl
  have e1 : (a.k == 1) = false := by rw [hk]; rfl
  have e2 : (a.k == 2) = false := by rw [hk]; rfl
  have e3 : (a.k == 3) = false := by rw [hk]; rfl
  have e4 : (a.k == 4) = false := by rw [hk]; rfl
  have e5 : (a.k == 5) = true := by rw [hk]; rfl
  have k0 := hab.cellAt 0 _ rfl
  have k1 := hab.cellAt 1 _ rfl
  have k2 := hab.cellAt 2 _ rfl
  have k3 := hab.cellAt 3 _ rfl
  have k5 := hab.cellAt 7 _ rfl
  have hrg := hab.range 4 [.int .u64 (a.keep : Int), .int .i64 a.torn, .int .i64 a.cut] (fun j v hv => by
    match j with
    | 0 => simpa [Ac.l] using hv
    | 1 => simpa [Ac.l] using hv
    | 2 => simpa [Ac.l] using hv
    | j + 3 => simp at hv)
  go_enter Try.func14, Try.ntmps14
  go_wp2_with (refine wp_ld 32 (.tmp 49) rfl rfl rfl hrg Try.underlying32 rfl sizePlan10 ?_)
  obtain ⟨w1, hw1⟩ : ∃ y, y = w.alloc (.cells (a.l (.slice A n c)).toArray 34) := ⟨_, rfl⟩
  rw [← hw1] at hB ⊢
  clear hw1 hab k0 k1 k2 k3 k5 hrg
  refine (crash10_nil a.keep a.torn a.cut _).mono ?_
  rintro e w2 ⟨rfl, hB2⟩
  go_wp2
  go_ret2
  exact ⟨rfl, hB.trans (hB2.mono hB.size)⟩
set_option maxRecDepth 100000 in
set_option maxHeartbeats 2000000 in
theorem don_6 (a : Ac) (A : Option Addr) (n c : Nat) (w : World) (hk : a.k = 6) :
    Calls Try.prog 14 #[.pointer none, .agg (a.l (.slice A n c)).toArray] w fun e w' => e = .returned (.tuple #[.pointer none, .int .i64 0]) ∧ Below w.heap.size w w' := by
  have hab := Blk.new' w 34 (a.l (.slice A n c))
  have hB : Below w.heap.size w (w.alloc (.cells (a.l (.slice A n c)).toArray 34)) := (Below.refl _ _).alloc (Nat.le_refl _) _
  have e0 : (a.k == 0) = false := by rw [hk]; rfl
  have e1 : (a.k == 1) = false := by rw [hk]; rfl
  have e2 : (a.k == 2) = false := by rw [hk]; rfl
  have e3 : (a.k == 3) = false := by rw [hk]; rfl
  have e4 : (a.k == 4) = false := by rw [hk]; rfl
  have e5 : (a.k == 5) = false := by rw [hk]; rfl
  have e6 : (a.k == 6) = true := by rw [hk]; rfl
  have k0 := hab.cellAt 0 _ rfl
  have k1 := hab.cellAt 1 _ rfl
  have k2 := hab.cellAt 2 _ rfl
  have k3 := hab.cellAt 3 _ rfl
  have k5 := hab.cellAt 7 _ rfl
  go_enter Try.func14, Try.ntmps14
  go_wp2_with (fail)
  obtain ⟨w1, hw1⟩ : ∃ y, y = w.alloc (.cells (a.l (.slice A n c)).toArray 34) := ⟨_, rfl⟩
  rw [← hw1] at hB ⊢
  clear hw1 hab k0 k1 k2 k3 k5
  refine (copy10_nil _).mono ?_
  rintro e w2 ⟨rfl, hB2⟩
  go_wp2
  go_ret2
  exact ⟨rfl, hB.trans (hB2.mono hB.size)⟩
set_option maxRecDepth 100000 in
set_option maxHeartbeats 2000000 in
theorem don_7 (a : Ac) (A : Option Addr) (n c : Nat) (w : World) (hk : a.k = 7) :
    Calls Try.prog 14 #[.pointer none, .agg (a.l (.slice A n c)).toArray] w fun e w' => e = .returned (.tuple #[.pointer none, .int .i64 0]) ∧ Below w.heap.size w w' := by
  have hab := Blk.new' w 34 (a.l (.slice A n c))
  have hB : Below w.heap.size w (w.alloc (.cells (a.l (.slice A n c)).toArray 34)) := (Below.refl _ _).alloc (Nat.le_refl _) _
  have e0 : (a.k == 0) = false := by rw [hk]; rfl
  have e1 : (a.k == 1) = false := by rw [hk]; rfl
  have e2 : (a.k == 2) = false := by rw [hk]; rfl
  have e3 : (a.k == 3) = false := by rw [hk]; rfl
  have e4 : (a.k == 4) = false := by rw [hk]; rfl
  have e5 : (a.k == 5) = false := by rw [hk]; rfl
  have e6 : (a.k == 6) = false := by rw [hk]; rfl
  have e7 : (a.k == 7) = true := by rw [hk]; rfl
  have k0 := hab.cellAt 0 _ rfl
  have k1 := hab.cellAt 1 _ rfl
  have k2 := hab.cellAt 2 _ rfl
  have k3 := hab.cellAt 3 _ rfl
  have k5 := hab.cellAt 7 _ rfl
  go_enter Try.func14, Try.ntmps14
  go_wp2_with (fail)
  obtain ⟨w1, hw1⟩ : ∃ y, y = w.alloc (.cells (a.l (.slice A n c)).toArray 34) := ⟨_, rfl⟩
  rw [← hw1] at hB ⊢
  clear hw1 hab k0 k1 k2 k3 k5
  refine (fuse10_nil a.m _).mono ?_
  rintro e w2 ⟨rfl, hB2⟩
  go_wp2
  go_ret2
  exact ⟨rfl, hB.trans (hB2.mono hB.size)⟩
set_option maxRecDepth 100000 in
set_option maxHeartbeats 2000000 in
theorem don_x (a : Ac) (A : Option Addr) (n c : Nat) (w : World) (hk : a.k < 0 ∨ 7 < a.k) :
    Calls Try.prog 14 #[.pointer none, .agg (a.l (.slice A n c)).toArray] w fun e w' => e = .returned (.tuple #[.pointer none, .int .i64 0]) ∧ Below w.heap.size w w' := by
  have hab := Blk.new' w 34 (a.l (.slice A n c))
  have hB : Below w.heap.size w (w.alloc (.cells (a.l (.slice A n c)).toArray 34)) := (Below.refl _ _).alloc (Nat.le_refl _) _
  have e0 : (a.k == 0) = false := by rw [beq_eq_false_iff_ne]; omega
  have e1 : (a.k == 1) = false := by rw [beq_eq_false_iff_ne]; omega
  have e2 : (a.k == 2) = false := by rw [beq_eq_false_iff_ne]; omega
  have e3 : (a.k == 3) = false := by rw [beq_eq_false_iff_ne]; omega
  have e4 : (a.k == 4) = false := by rw [beq_eq_false_iff_ne]; omega
  have e5 : (a.k == 5) = false := by rw [beq_eq_false_iff_ne]; omega
  have e6 : (a.k == 6) = false := by rw [beq_eq_false_iff_ne]; omega
  have e7 : (a.k == 7) = false := by rw [beq_eq_false_iff_ne]; omega
  have k0 := hab.cellAt 0 _ rfl
  have k1 := hab.cellAt 1 _ rfl
  have k2 := hab.cellAt 2 _ rfl
  have k3 := hab.cellAt 3 _ rfl
  have k5 := hab.cellAt 7 _ rfl
  go_enter Try.func14, Try.ntmps14
  go_wp2
  go_ret2
  exact ⟨rfl, hB⟩
def errN (a : Ac) : Int := if 0 ≤ a.k ∧ a.k ≤ 3 then 16 else 0
theorem don_any (a : Ac) (A : Option Addr) (n c : Nat) (w : World) :
    Calls Try.prog 14 #[.pointer none, .agg (a.l (.slice A n c)).toArray] w fun e w' => e = .returned (.tuple #[.pointer none, .int .i64 (errN a)]) ∧ Below w.heap.size w w' := by
  have : a.k = 0 ∨ a.k = 1 ∨ a.k = 2 ∨ a.k = 3 ∨ a.k = 4 ∨ a.k = 5 ∨ a.k = 6 ∨ a.k = 7 ∨ (a.k < 0 ∨ 7 < a.k) := by omega
  unfold errN
  rcases this with e | e | e | e | e | e | e | e | e
  · rw [if_pos ⟨by omega, by omega⟩]; exact don_0 a A n c w e
  · rw [if_pos ⟨by omega, by omega⟩]; exact don_1 a A n c w e
  · rw [if_pos ⟨by omega, by omega⟩]; exact don_2 a A n c w e
  · rw [if_pos ⟨by omega, by omega⟩]; exact don_3 a A n c w e
  · rw [if_neg (by omega)]; exact don_4 a A n c w e
  · rw [if_neg (by omega)]; exact don_5 a A n c w e
  · rw [if_neg (by omega)]; exact don_6 a A n c w e
  · rw [if_neg (by omega)]; exact don_7 a A n c w e
  · rw [if_neg (by omega)]; exact don_x a A n c w e
set_option maxRecDepth 100000 in
set_option maxHeartbeats 4000000 in
theorem diskNil_law (a : Ac) (va : Value) (F : Nat → Prop) (w : World) (hva : Rd w F va (bys a.b)) :
    Calls Try.prog 7 #[.agg (a.l va).toArray] w fun e w' => e = .returned (.bool true) ∧ Below w.heap.size w w' := by
  obtain ⟨A, c, rfl⟩ := hva.shape
  have hab := Blk.new' w 34 (a.l (.slice A a.b.length c))
  have hB : Below w.heap.size w (w.alloc (.cells (a.l (.slice A a.b.length c)).toArray 34)) := (Below.refl _ _).alloc (Nat.le_refl _) _
  have hdn := fun W => don_any a A a.b.length c W
  have hE : (errN a = 16 ∧ 0 ≤ a.k ∧ a.k ≤ 3) ∨ (errN a = 0 ∧ (a.k < 0 ∨ 3 < a.k)) := by
    unfold errN
    split <;> omega
  obtain ⟨E, hEE⟩ : ∃ E, E = errN a := ⟨_, rfl⟩
  rw [← hEE] at hE hdn
  have Hdn := hid hdn
  clear hEE hdn hva
  go_enter Try.func7, Try.ntmps7
  go_wp2_with (fail)
  obtain ⟨w0, hw0⟩ : ∃ y, y = w.alloc (.cells (a.l (.slice A a.b.length c)).toArray 34) := ⟨_, rfl⟩
  rw [← hw0] at hab hB ⊢
  obtain ⟨gx, hgx⟩ : ∃ g, g = w.heap.size := ⟨_, rfl⟩
  rw [← hgx] at hab ⊢
  clear hw0 hgx
  refine (wakes10_any _).mono ?_
  rintro e w1 ⟨rfl, hB1⟩
  have hab1 := hab.below hB1
  have hB1' := hB.trans (hB1.mono hB.size)
  clear hab hB hB1
  go_wp2_with (refine wp_ld 34 (.tmp 1) rfl rfl rfl hab1.whole Try.underlying34 rfl sizeAc ?_)
  refine (Hdn.out _).mono ?_
  rintro e w2 ⟨rfl, hB2⟩
  have hab2 := hab1.below hB2
  have hB2' := hB1'.trans (hB2.mono hB1'.size)
  have c1 := hab2.cellAt 1 _ rfl
  clear hab1 hB1' hB2
  go_wp2_with (fail)
  refine (read10_nil a.n _).mono ?_
  rintro e w3 ⟨A3, k3, c3, rfl, hB3⟩
  have hab3 := hab2.below hB3
  have hB3' := hB2'.trans (hB3.mono hB2'.size)
  have c0 := hab3.cellAt 0 _ rfl
  clear hab2 hB2' hB3 c1 Hdn
  rcases hE with ⟨rfl, hk⟩ | ⟨rfl, hk⟩
  · clear hk
    go_wp2_with (fail)
    refine (names10_nil _).mono ?_
    rintro e w4 ⟨A4, c4, rfl, hB4⟩
    have hB4' := hB3'.trans (hB4.mono hB3'.size)
    go_wp2_with (fail)
    refine (pending10_nil _).mono ?_
    rintro e w5 ⟨rfl, hB5⟩
    go_wp2
    go_ret
    exact ⟨rfl, hB4'.trans (hB5.mono hB4'.size)⟩
  · by_cases h3 : 3 < a.k
    · have h3b : decide (3 < a.k) = true := decide_eq_true h3
      clear hk h3
      go_wp2_with (fail)
      refine (names10_nil _).mono ?_
      rintro e w4 ⟨A4, c4, rfl, hB4⟩
      have hB4' := hB3'.trans (hB4.mono hB3'.size)
      go_wp2_with (fail)
      refine (pending10_nil _).mono ?_
      rintro e w5 ⟨rfl, hB5⟩
      go_wp2
      go_ret
      exact ⟨rfl, hB4'.trans (hB5.mono hB4'.size)⟩
    · have h3b : decide (3 < a.k) = false := decide_eq_false h3
      have h0b : decide (a.k < 0) = true := decide_eq_true (by omega)
      clear hk h3
      go_wp2_with (fail)
      refine (names10_nil _).mono ?_
      rintro e w4 ⟨A4, c4, rfl, hB4⟩
      have hB4' := hB3'.trans (hB4.mono hB3'.size)
      go_wp2_with (fail)
      refine (pending10_nil _).mono ?_
      rintro e w5 ⟨rfl, hB5⟩
      go_wp2
      go_ret
      exact ⟨rfl, hB4'.trans (hB5.mono hB4'.size)⟩
end Go.Proofs.Ytjaiffefgjopmaa
