/- R2: several texts in one. -/
import Derived.Test.YtddeeigdcolegaaDoorN3
/- R1: contracts of the document's answers for layer 1 that hold bytes. -/
namespace Go.Proofs.YtddeeigdcolegaaDoor
open Go.RowKit Go.V

theorem take_eq_succ {a b : List UInt8} {k : Nat} (ha : k < a.length) (hb : k < b.length) (h : a.take k = b.take k) (he : a[k].toNat = b[k].toNat) : a.take (k + 1) = b.take (k + 1) := by
  rw [List.take_succ_eq_append_getElem ha, List.take_succ_eq_append_getElem hb, h, UInt8.toNat_inj.1 he]

set_option maxHeartbeats 400000 in
theorem same_any (v u : Value) (a b : List UInt8) (F G : Nat → Prop) (w : World) (ha : Rd w F v (bys a)) (hb : Rd w G u (bys b)) :
    Calls Tryd.prog 26 #[v, u] w fun e w' => e = .returned (.bool (decide (a = b))) ∧ ∃ n, w' = w.drewN n := by
  obtain ⟨A, c, rfl⟩ := ha.shape
  obtain ⟨B, d, rfl⟩ := hb.shape
  have hca := ha.cap.2
  have hm : a.length ≤ 9223372036854775807 := by
    obtain ⟨_, c', e, _, h2, _⟩ := ha.bytes
    injection e with e1 e2 e3
    unfold maxLen at h2
    omega
  by_cases hl : a.length = b.length
  · have hn : ((a.length : Int) != (b.length : Int)) = false := by rw [bne_eq_false_iff_eq]; omega
    have Hl := hid hl
    clear hl
    go_enter Tryd.func26, Tryd.ntmps26
    go_wp2
    go_loopw [5] (fun i wr => ∃ k : Nat, k ≤ a.length ∧ i = .int .i64 k ∧ a.take k = b.take k ∧ ∃ n, wr = w.drewN n) (fun i _ => a.length - (intOf i).toNat)
    case atStart => exact ⟨0, Nat.zero_le _, rfl, rfl, 0, rfl⟩
    case round =>
      obtain ⟨k, hk, rfl, htk, n, rfl⟩ := hrel
      have Htk := hid htk
      clear htk
      by_cases hlt : k < a.length
      · have hlb : k < b.length := by have := Hl.out; omega
        obtain ⟨g, off, rfl, _, hc1⟩ := ha.byteAt k hlt
        obtain ⟨g2, off2, rfl, _, hc2⟩ := hb.byteAt k hlb
        obtain ⟨x, hx⟩ : ∃ x, x = a[k] := ⟨_, rfl⟩
        obtain ⟨y, hy⟩ : ∃ y, y = b[k] := ⟨_, rfl⟩
        rw [← hx] at hc1
        rw [← hy] at hc2
        have hli : (k : Int) < (b.length : Int) := by omega
        by_cases he : x.toNat = y.toNat
        · have hb1 : ((x.toNat : Int) != (y.toNat : Int)) = false := by rw [bne_eq_false_iff_eq]; omega
          have hsucc := hid (take_eq_succ hlt hlb Htk.out (by rw [← hx, ← hy]; exact he))
          clear he hx hy
          go_wp2
          go_quiet (fail)
          go_wp2
          go_roundw
          case rel => exact ⟨k + 1, by omega, by go_num, hsucc.out, _, rfl⟩
          case measure => simp [intOf]; omega
        · have hb1 : ((x.toNat : Int) != (y.toNat : Int)) = true := by rw [bne_iff_ne]; omega
          have hne : Hid (decide (a = b) = false) := decide_eq_false (by
            rintro rfl
            rw [← hy] at hx
            exact he (by rw [hx]))
          clear he hx hy
          go_wp2
          go_quiet (fail)
          go_wp2
          go_ret
          exact ⟨by rw [hne.out]; rfl, _, World.drewN_drewN _ _ _⟩
      · have heq : Hid (decide (a = b) = true) := decide_eq_true (by
          have h1 := Htk.out
          rw [List.take_of_length_le (by omega), List.take_of_length_le (by have := Hl.out; omega)] at h1
          exact h1)
        go_wp2
        go_ret
        exact ⟨by rw [heq.out]; rfl, _, rfl⟩
  · have hn : ((a.length : Int) != (b.length : Int)) = true := by rw [bne_iff_ne]; omega
    have hne : Hid (decide (a = b) = false) := decide_eq_false (by rintro rfl; exact hl rfl)
    go_enter Tryd.func26, Tryd.ntmps26
    go_wp2
    go_ret
    exact ⟨by rw [hne.out]; rfl, 0, rfl⟩

theorem same_b (v u : Value) (a b : List UInt8) (F G : Nat → Prop) (w : World) (ha : Rd w F v (bys a)) (hb : Rd w G u (bys b)) :
    Calls Tryd.prog 26 #[v, u] w fun e w' => e = .returned (.bool (decide (a = b))) ∧ Below w.heap.size w w' :=
  (same_any v u a b F G w ha hb).mono fun _ _ ⟨he, n, hn⟩ => ⟨he, by rw [hn]; exact below_drewN (Below.refl _ _) n⟩

/-- the bytes so far, and the number that is left -/
theorem packed_step (x : Nat) (k : Nat) (h : ¬ x < 128) : packedF (k + 1) x = UInt8.ofNat (x % 128 + 128) :: packedF k (x / 128) := by rw [packedF, if_neg h]
theorem packed_small (x : Nat) (k : Nat) (h : x < 128) : packedF k x = [UInt8.ofNat x] := by cases k <;> simp [packedF, h]

/-- a fixed number's bytes -/
def fixB (n x : Nat) : List UInt8 := (List.range n).map fun i => UInt8.ofNat (x / 256 ^ (n - 1 - i) % 256)
def okN (n : Int) : Prop := n = 1 ∨ n = 2 ∨ n = 4 ∨ n = 8
instance (n : Int) : Decidable (okN n) := by unfold okN; infer_instance
def fixR (n : Int) (x : Nat) : List UInt8 := if okN n then fixB n.toNat x else []
end Go.Proofs.YtddeeigdcolegaaDoor
/- R2: fixed numbers put, by the program and by the document. -/
namespace Go.Proofs.YtddeeigdcolegaaDoor
open Go.RowKit Go.V
def fixT (n x k : Nat) : List UInt8 := (List.range k).map fun i => UInt8.ofNat (x / 256 ^ (n - 1 - i) % 256)
theorem fixT_succ (n x k : Nat) : fixT n x (k + 1) = fixT n x k ++ [UInt8.ofNat (x / 256 ^ (n - 1 - k) % 256)] := by simp [fixT, List.range_succ]
theorem okN_cases {n : Int} (h : okN n) : ∃ m : Nat, n = m ∧ (m = 1 ∨ m = 2 ∨ m = 4 ∨ m = 8) := by
  unfold okN at h
  rcases h with h | h | h | h
  · exact ⟨1, h, by omega⟩
  · exact ⟨2, h, by omega⟩
  · exact ⟨4, h, by omega⟩
  · exact ⟨8, h, by omega⟩
theorem okN_bool (n : Int) : decide (n = 1 ∨ n = 2 ∨ n = 4 ∨ n = 8) = decide (okN n) := rfl

theorem fix_byte (x j : Nat) : (x : Int) / 2 ^ (8 * j) % 256 = ((x / 256 ^ j % 256 : Nat) : Int) := by
  rw [show (2 : Int) ^ (8 * j) = ((2 ^ (8 * j) : Nat) : Int) from by push_cast; rfl, Nat.pow_mul, Int.natCast_emod, Int.natCast_ediv]
  rfl
theorem fix_push {n x k : Nat} (bs : List UInt8) : bvs (bs ++ fixT n x k) ++ [.int .u8 ((x : Int) / 2 ^ (8 * (n - 1 - k)) % 256)] = bvs (bs ++ fixT n x (k + 1)) := by
  rw [fix_byte, fixT_succ, ← List.append_assoc, bvs_snoc, byteV_of (by omega)]

set_option maxHeartbeats 400000 in
theorem putx_any (v : Value) (bs : List UInt8) (x : Nat) (n : Int) (F : Nat → Prop) (w : World) (hb : Rd w F v (bys bs)) (_hx : x < 18446744073709551616) (hl : bs.length ≤ 35184372088832) :
    Calls Tryd.prog 56 #[v, .int .u64 (x : Int), .int .i64 n] w fun e w' => ∃ v', e = .returned v' ∧ NewB w w' v' (bs ++ fixR n x) := by
  by_cases ho : okN n
  · obtain ⟨m, rfl, hm⟩ := okN_cases ho
    have hd : decide (okN (m : Int)) = true := decide_eq_true ho
    have Hr : Hid (fixR (m : Int) x = fixT m x m) := by show _ = _; unfold fixR; rw [if_pos ho]; rfl
    have hm8 : m ≤ 8 := by omega
    clear ho hm
    go_enter Tryd.func56, Tryd.ntmps56
    go_wp2_with (fail)
    refine (fsize_any _ _).mono ?_
    rintro e w0 ⟨rfl, rfl⟩
    rw [okN_bool]
    go_wp2_with (fail)
    refine (ext_i v bs _ F _ hb (by omega) (by omega)).mono ?_
    rintro e w1 ⟨v1, rfl, ho1, hB1⟩
    go_wp2
    go_loopw [7, 18] (fun v' i wr => ∃ k : Nat, k ≤ m ∧ i = .int .i64 k ∧ NewB w wr v' (bs ++ fixT m x k)) (fun _ i _ => m - (intOf i).toNat)
    case atStart => exact ⟨0, Nat.zero_le _, rfl, by simpa [fixT] using ho1, hB1⟩
    case round =>
      obtain ⟨k, hk, rfl, hown, hB⟩ := hrel
      by_cases hlt : k < m
      · have hlen : (bs ++ fixT m x k).length ≤ 35184372088840 := by simp [fixT]; omega
        go_wp2_with (refine wp_push (.tmp 21) (.tmp 29) 30 slB rfl rfl rfl rfl rfl rfl rfl rfl (by simp) rfl hown (by simp only [maxLen]; omega) (by omega) hB.size ?_)
        intro v2 w2 hO hG _
        go_wp2
        rw [fix_push] at hO
        refine ⟨⟨k + 1, by omega, by go_num, ?_, hB.grown hG hB.size (fun k hk => (hown.lt k hk).1)⟩, by simp [intOf]; omega⟩
        rw [show (bs ++ fixT m x (k + 1)).length = bs.length + (fixT m x k).length + 1 from by simp [fixT]; omega]
        exact hO
      · go_wp2
        go_ret
        have : k = m := by omega
        subst this
        exact ⟨_, rfl, by rw [Hr.out]; exact ⟨hown, hB⟩⟩
  · have hd : decide (okN n) = false := decide_eq_false ho
    have Hr : Hid (bs ++ fixR n x = bs) := by show _ = _; unfold fixR; rw [if_neg ho]; simp
    clear ho
    go_enter Tryd.func56, Tryd.ntmps56
    go_wp2_with (fail)
    refine (fsize_any _ _).mono ?_
    rintro e w0 ⟨rfl, rfl⟩
    rw [okN_bool]
    go_wp2_with (fail)
    refine (ext_i v bs _ F _ hb (by omega) (by omega)).mono ?_
    rintro e w1 ⟨v1, rfl, ho1, hB1⟩
    go_wp2
    go_ret
    exact ⟨v1, rfl, by rw [Hr.out]; exact ⟨ho1, hB1⟩⟩

set_option maxHeartbeats 400000 in
theorem refx_any (x : Nat) (n : Int) (w : World) (hx : x < 18446744073709551616) :
    Calls Tryd.prog 83 #[.int .u64 (x : Int), .int .i64 n] w fun e w' => ∃ v', e = .returned v' ∧ NewB w w' v' (fixR n x) := by
  by_cases ho : okN n
  · obtain ⟨m, rfl, hm⟩ := okN_cases ho
    have hd : decide (okN (m : Int)) = true := decide_eq_true ho
    have Hr : Hid (fixR (m : Int) x = fixT m x m) := by show _ = _; unfold fixR; rw [if_pos ho]; rfl
    have hm8 : m ≤ 8 := by omega
    have hm1 : 1 ≤ m := by omega
    clear ho hm
    go_enter Tryd.func83, Tryd.ntmps83
    go_wp2_with (fail)
    refine (wide_any _ _).mono ?_
    rintro e w0 ⟨rfl, rfl⟩
    rw [okN_bool]
    go_wp2
    go_loopw [5, 6] (fun v' i wr => ∃ k : Nat, k ≤ m ∧ i = .int .i64 k ∧ NewB w wr v' (fixT m x k)) (fun _ i _ => m - (intOf i).toNat)
    case atStart => exact ⟨0, Nat.zero_le _, rfl, World.ownsRow_nil _ _ _ _, Below.refl _ _⟩
    case round =>
      obtain ⟨k, hk, rfl, hown, hB⟩ := hrel
      by_cases hlt : k < m
      · have hlen : (fixT m x k).length ≤ 8 := by simp [fixT]; omega
        go_wp2
        go_loop [7, 8] (fun y j => ∃ i : Nat, k ≤ i ∧ i ≤ m - 1 ∧ j = .int .i64 i ∧ y = .int .u64 ((x / 256 ^ (i - k) : Nat) : Int)) (fun _ j => m - (intOf j).toNat)
        case atStart => exact ⟨k, Nat.le_refl _, by omega, rfl, by simp⟩
        case round =>
          obtain ⟨i, hki, him, rfl, rfl⟩ := hrel
          have hy : x / 256 ^ (i - k) < 18446744073709551616 := Nat.lt_of_le_of_lt (Nat.div_le_self _ _) hx
          by_cases hi : i < m - 1
          · have Hs : Hid (x / 256 ^ (i - k) / 256 = x / 256 ^ (i + 1 - k)) := by
              show _ = _
              rw [Nat.div_div_eq_div_mul, show i + 1 - k = (i - k) + 1 from by omega, Nat.pow_succ]
            obtain ⟨y, hye⟩ : ∃ y, y = x / 256 ^ (i - k) := ⟨_, rfl⟩
            rw [← hye] at hy Hs ⊢
            clear hye
            go_wp2
            go_round
            case rel => exact ⟨i + 1, by omega, by omega, by go_num, by rw [← Hs.out]; go_num⟩
            case measure => simp [intOf]; omega
          · have Hs : Hid (i - k = m - 1 - k) := by show _ = _; omega
            obtain ⟨y, hye⟩ : ∃ y, y = x / 256 ^ (i - k) := ⟨_, rfl⟩
            rw [← hye] at hy ⊢
            have Hy := hid hye
            clear hye
            go_wp2_with (refine wp_push (.tmp 28) (.tmp 31) 32 slB rfl rfl rfl rfl rfl rfl rfl rfl (by simp) rfl hown (by simp only [maxLen]; omega) (by omega) hB.size ?_)
            intro v2 w2 hO hG _
            go_wp2
            have hy1 : y = x / 256 ^ (m - 1 - k) := by rw [← Hs.out]; exact Hy.out
            rw [show ((y : Int) % 256) = ((y % 256 : Nat) : Int) from by omega, ← byteV_of (by omega), ← bvs_snoc, hy1, ← fixT_succ] at hO
            refine ⟨⟨k + 1, by omega, by go_num, ?_, hB.grown hG hB.size (fun k hk => (hown.lt k hk).1)⟩, by simp [intOf]; omega⟩
            rw [show (fixT m x (k + 1)).length = (fixT m x k).length + 1 from by simp [fixT]]
            exact hO
      · go_wp2
        go_ret
        have : k = m := by omega
        subst this
        exact ⟨_, rfl, by rw [Hr.out]; exact ⟨hown, hB⟩⟩
  · have hd : decide (okN n) = false := decide_eq_false ho
    have Hr : Hid (fixR n x = []) := by show _ = _; unfold fixR; rw [if_neg ho]
    clear ho
    go_enter Tryd.func83, Tryd.ntmps83
    go_wp2_with (fail)
    refine (wide_any _ _).mono ?_
    rintro e w0 ⟨rfl, rfl⟩
    rw [okN_bool]
    go_wp2
    go_ret
    exact ⟨_, rfl, by rw [Hr.out]; exact ⟨World.ownsRow_nil _ _ _ _, Below.refl _ _⟩⟩
end Go.Proofs.YtddeeigdcolegaaDoor
