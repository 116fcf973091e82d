/- R3: contract of the document's ReadFixed, where the bytes are there. -/
import Derived.Test.YtmjpkdehkdpdpaaDoorR2
import Derived.Test.YtmjpkdehkdpdpaaDoorVA
import Derived.Great.BuildSlice
namespace Go.Proofs.YtmjpkdehkdpdpaaDoor
open Go.RowKit Go.V
/-- the number of n bytes from a place on, the highest first -/
def nb (b : List UInt8) (k : Nat) : Nat → Nat
  | 0 => 0
  | n + 1 => 256 * nb b k n + (b.getD (k + n) 0).toNat
theorem nb_lt (b : List UInt8) (k : Nat) : ∀ n, nb b k n < 256 ^ n
  | 0 => by simp [nb]
  | n + 1 => by
    have h := nb_lt b k n
    have := (b.getD (k + n) 0).toNat_lt
    rw [nb, Nat.pow_succ]
    omega
theorem size54 : (Tryd.prog.info? 143).map (·.size) = some 4 := by kernel_rfl
theorem zero54 : (Tryd.prog.info? 143).map (·.zero) = some (some (.agg [.int .u64 0, .slice none 0 0, .int .i64 0, .int .i64 0].toArray)) := by kernel_rfl
theorem bld54 (x n : Int) : ∀ W : World, (Instr.build 143 [(0, .int .u64 x), (2, .int .i64 n)].toArray).run Tryd.prog W = .ok (.agg #[.int .u64 x, .slice none 0 0, .int .i64 n, .int .i64 0]) W := fun _ => by kernel_rfl

theorem fld54 (x y : Int) (n : Int) : ∀ W : World, (Instr.field 143 (.agg #[.int .u64 x, .slice none 0 0, .int .i64 n, .int .i64 y]) 0).run Tryd.prog W = .ok (.int .u64 x) W := fun _ => by kernel_rfl
set_option maxRecDepth 100000 in
set_option maxHeartbeats 1000000 in
theorem readx_any (v : Value) (b : List UInt8) (k n : Nat) (F : Nat → Prop) (w : World) (ht : Rd w F v (bys b)) (hn : n = 1 ∨ n = 2 ∨ n = 4 ∨ n = 8) (hk : k + n ≤ b.length) :
    Calls Tryd.prog 83 #[v, .int .i64 (k : Int), .int .i64 (n : Int)] w fun e w' => e = .returned (.agg #[.int .u64 (nb b k n : Int), .slice none 0 0, .int .i64 (n : Int), .int .i64 0]) ∧ Below w.heap.size w w' := by
  obtain ⟨A, c, rfl⟩ := ht.shape
  have hbl : b.length ≤ 9223372036854775807 := by
    obtain ⟨_, c', e, h1, h2, _⟩ := ht.bytes
    unfold maxLen at h2
    omega
  have hd : decide ((n : Int) = 1 ∨ (n : Int) = 2 ∨ (n : Int) = 4 ∨ (n : Int) = 8) = true := decide_eq_true (by omega)
  have hn8 : n ≤ 8 := by omega
  clear hn
  go_enter Tryd.func83, Tryd.ntmps83
  go_wp2_with (first | (refine wp_new 143 rfl rfl zero54 ?_))
  refine (wide_any _ _).mono ?_
  rintro e w0 ⟨rfl, rfl⟩
  rw [hd]
  have hz := Blk.new' w 143 [.int .u64 0, .slice none 0 0, .int .i64 0, .int .i64 0]
  have hB : Below w.heap.size w (w.alloc (.cells [.int .u64 0, .slice none 0 0, .int .i64 0, .int .i64 0].toArray 143)) := (Below.refl _ _).alloc (Nat.le_refl _) _
  have hr := ht.below hB
  obtain ⟨w1, hw1⟩ : ∃ w1, w1 = (w.alloc (.cells [.int .u64 0, .slice none 0 0, .int .i64 0, .int .i64 0].toArray 143)) := ⟨_, rfl⟩
  rw [← hw1] at hz hB hr
  first | rw [← hw1] | (simp only [List.toArray] at hw1; rw [← hw1])
  clear hw1
  go_wp2
  go_loop [7, 8] (fun nv iv => ∃ i : Nat, i ≤ n ∧ iv = .int .i64 i ∧ nv = .int .u64 (nb b k i : Int)) (fun _ iv => n - (intOf iv).toNat)
  case atStart => exact ⟨0, by omega, rfl, rfl⟩
  case round =>
    obtain ⟨i, hi, rfl, rfl⟩ := hrel
    have hlt' := nb_lt b k i
    by_cases hil : i < n
    · obtain ⟨g, off, rfl, _, hc1⟩ := hr.byteAt (k + i) (by omega)
      have hpow : 256 ^ (i + 1) ≤ 256 ^ 8 := Nat.pow_le_pow_right (by omega) (by omega)
      have hnx := nb_lt b k (i + 1)
      have hs : Hid (nb b k (i + 1) = 256 * nb b k i + (b[k + i]'(by omega)).toNat) := by
        show _ = _
        rw [nb, List.getD_eq_getElem?_getD, List.getElem?_eq_getElem (by omega)]
        rfl
      obtain ⟨y, hy⟩ : ∃ y, y = b[k + i]'(by omega) := ⟨_, rfl⟩
      rw [← hy] at hc1 hs
      clear hy
      have hyl := y.toNat_lt
      obtain ⟨N, hN⟩ : ∃ N, N = nb b k i := ⟨_, rfl⟩
      rw [← hN] at hs hlt' ⊢
      clear hN
      have hN64 : 256 * N + y.toNat < 18446744073709551616 := by
        rw [← hs.out]
        exact Nat.lt_of_lt_of_le hnx (Nat.le_trans hpow (by decide))
      clear hpow hnx hlt'
      rw [show off + (k + i) = off + (k + i) from rfl] at hc1
      go_wp2
      go_round
      case rel => exact ⟨i + 1, by omega, by go_num, by rw [hs.out]; go_num⟩
      case measure => simp [intOf]; omega
    · have hii : i = n := by omega
      subst hii
      have hb54 := bld54 (nb b k i : Int) (i : Int)
      go_wp2_with (first | (refine wp_bld 143 [(0, .tmp 35), (2, .tmp 36)] rfl rfl [(0, .int .u64 (nb b k i : Int)), (2, .int .i64 (i : Int))] rfl hb54 ?_) | (refine wp_st 143 (.tmp 6) (.tmp 37) rfl rfl rfl (f := 0) rfl (l := [.int .u64 (nb b k i : Int), .slice none 0 0, .int .i64 (i : Int), .int .i64 0]) rfl hz (by simp) size54 (by simp [Value.oneCell']) ?_; intro w7 hb7 hG7))
      refine ret_cell rfl rfl (l := [.int .u64 (nb b k i : Int), .slice none 0 0, .int .i64 (i : Int), .int .i64 0]) hb7.whole Tryd.underlying143 rfl size54 rfl ?_
      exact ⟨rfl, hB.grown hG7 hB.size (by intro k hk; injection hk with hk; omega)⟩

end Go.Proofs.YtmjpkdehkdpdpaaDoor
