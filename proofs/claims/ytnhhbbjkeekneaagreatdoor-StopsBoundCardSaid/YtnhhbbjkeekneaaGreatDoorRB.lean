/- RB: several texts in one (N3 R2 RB). -/
import Derived.Test.YtnhhbbjkeekneaaGreatDoorV
import Derived.Test.YtnhhbbjkeekneaaGreatDoorM1
import Derived.Test.YtnhhbbjkeekneaaGreatDoorShelf
import Derived.Deep.RegionHeld3
import Derived.Test.YtnhhbbjkeekneaaGreatDoorVA
/- N3: several texts in one. -/
/- N1: contracts of package nums and of the document's answers for layer 1: those that only reckon. -/
namespace Go.Proofs.YtnhhbbjkeekneaaGreatDoor
open Go.RowKit Go.V

theorem xor_zero_u64 (y : Nat) (hy : y < 18446744073709551616) : bits .xor .u64 (y : Int) 0 = (y : Int) := by
  have := u64_xor_nat y 0 hy (by omega)
  simpa using this
theorem xor_ones_u64 (y : Nat) (hy : y < 18446744073709551616) : bits .xor .u64 (y : Int) 18446744073709551615 = ((18446744073709551615 - y : Nat) : Int) := by
  have := u64_xor_nat y 18446744073709551615 hy (by omega)
  have e : y ^^^ 18446744073709551615 = 18446744073709551615 - y := by
    have h := BitVec.toNat_not (x := BitVec.ofNat 64 y)
    have h2 : (BitVec.ofNat 64 y ^^^ BitVec.allOnes 64) = ~~~ (BitVec.ofNat 64 y) := BitVec.xor_allOnes
    have h3 := congrArg BitVec.toNat h2
    rw [BitVec.toNat_xor, h] at h3
    simp only [BitVec.toNat_ofNat, BitVec.toNat_allOnes] at h3
    rw [Nat.mod_eq_of_lt (by omega)] at h3
    exact h3
  rw [e] at this
  exact this

theorem fold_out (x : Int) (h1 : -9223372036854775808 ≤ x) (h2 : x ≤ 9223372036854775807) :
    bits .xor .u64 (IntKind.u64.wrap (IntKind.u64.wrap x * 2)) (IntKind.u64.wrap (x / 9223372036854775808)) = (foldN x : Int) := by
  simp only [IntKind.wrap_u64]
  unfold foldN
  split
  · have e1 : x / 9223372036854775808 % 18446744073709551616 = 18446744073709551615 := by omega
    have e2 : x % 18446744073709551616 * 2 % 18446744073709551616 = (((2 * x + 18446744073709551616).toNat : Nat) : Int) := by omega
    rw [e1, e2, xor_ones_u64 _ (by omega)]
    omega
  · have e1 : x / 9223372036854775808 % 18446744073709551616 = 0 := by omega
    have e2 : x % 18446744073709551616 * 2 % 18446744073709551616 = (((2 * x).toNat : Nat) : Int) := by omega
    rw [e1, e2, xor_zero_u64 _ (by omega)]

theorem fold_any (x : Int) (w : World) (h1 : -9223372036854775808 ≤ x) (h2 : x ≤ 9223372036854775807) :
    Calls Tryz.prog 158 #[.int .i64 x] w fun e w' => e = .returned (.int .u64 (foldN x : Nat)) ∧ w = w' := by
  go_enter Tryz.func158, Tryz.ntmps158
  go_wp2
  go_ret
  exact ⟨ret_i (fold_out x h1 h2), rfl⟩

theorem unfold_out (x : Nat) (h2 : x < 18446744073709551616) : bits BinOp.xor IntKind.i64 (↑x / 2) (wrap64 (-wrap64 (bits BinOp.and IntKind.u64 (↑x) 1))) = unfoldZ x := by
  have e1 : bits BinOp.and IntKind.u64 (x : Int) 1 = ((x % 2 : Nat) : Int) := by
    have := u64_and_nat x 1 h2 (by omega)
    rw [nat_mask1] at this
    exact this
  rw [e1, wrap64_id (x := ((x % 2 : Nat) : Int)) (by omega) (by omega), wrap64_id (by omega) (by omega)]
  unfold unfoldZ
  have e2 : (x : Int) / 2 = ((x / 2 : Nat) : Int) := by omega
  rw [e2]
  generalize hy : x / 2 = y
  have hy' : y < 9223372036854775808 := by omega
  split
  · rename_i h
    rw [h]
    show IntKind.i64.wrap ((BitVec.ofInt 64 (y : Int) ^^^ BitVec.ofInt 64 (-1)).toNat : Int) = _
    have h3 : BitVec.ofInt 64 (-1) = BitVec.allOnes 64 := by decide
    rw [h3, BitVec.xor_allOnes, BitVec.toNat_not, BitVec.ofInt_natCast, BitVec.toNat_ofNat, IntKind.wrap_i64]
    omega
  · rename_i h
    have h0 : x % 2 = 0 := by omega
    rw [h0]
    show IntKind.i64.wrap ((BitVec.ofInt 64 (y : Int) ^^^ BitVec.ofInt 64 (-0)).toNat : Int) = _
    have h3 : BitVec.ofInt 64 (-0) = BitVec.ofNat 64 0 := by decide
    rw [h3, BitVec.xor_zero, BitVec.ofInt_natCast, BitVec.toNat_ofNat, IntKind.wrap_i64]
    omega

set_option maxHeartbeats 400000 in
theorem unfold_any (x : Nat) (w : World) (h2 : x < 18446744073709551616) :
    Calls Tryz.prog 162 #[.int .u64 (x : Int)] w fun e w' => e = .returned (.int .i64 (unfoldZ x)) ∧ w = w' := by
  go_enter Tryz.func162, Tryz.ntmps162
  go_wp2
  go_ret
  exact ⟨ret_i (unfold_out x h2), rfl⟩

theorem psize_any (x : Nat) (w : World) (h2 : x < 18446744073709551616) :
    Calls Tryz.prog 128 #[.int .u64 (x : Int)] w fun e w' => e = .returned (.int .i64 (psz x : Nat)) ∧ w = w' := by
  go_enter Tryz.func128, Tryz.ntmps128
  go_wp2_with (go_at_call 146; refine (Tryz.bits_Len64 _ _ (by omega) (by omega)).mono ?_; rintro e w' ⟨rfl, rfl⟩)
  go_ret
  refine ⟨ret_i ?_, rfl⟩
  have hb := bitLen_le x
  rw [psz_bits x h2, wrap64_id (x := (Lib.bitLen x : Int) + 7) (by omega) (by omega), wrap64_id (x := (Lib.bitLen x : Int) + 7 - 1) (by omega) (by omega), Int.tdiv_eq_ediv_of_nonneg (by omega), wrap64_id (by omega) (by omega)]
  omega

theorem fsize_any (n : Int) (w : World) :
    Calls Tryz.prog 127 #[.int .i64 n] w fun e w' => e = .returned (.bool (decide (n = 1 ∨ n = 2 ∨ n = 4 ∨ n = 8))) ∧ w = w' := by
  go_enter Tryz.func127, Tryz.ntmps127
  go_wp2
  all_goals (go_ret; exact ⟨ret_b (by rw [Bool.eq_iff_iff]; simp; try omega), rfl⟩)
end Go.Proofs.YtnhhbbjkeekneaaGreatDoor
/- N2: contracts of package nums that put bytes. -/
namespace Go.Proofs.YtnhhbbjkeekneaaGreatDoor
open Go.RowKit Go.V

theorem slB : SlT Tryz.prog 33 5 (.int .u8 0) 1 := .of Tryz.underlying33 (by kernel_rfl) rfl
theorem slI : SlT Tryz.prog 66 3 (.int .i64 0) 8 := .of Tryz.underlying66 (by kernel_rfl) rfl
/-- 'extended' lays a copy in a row of its own. -/
theorem ext_any (v : Value) (bs : List UInt8) (n : Nat) (F : Nat → Prop) (w : World) (hb : Rd w F v (bys bs)) (hn : bs.length + n ≤ 70368744177664) :
    Calls Tryz.prog 118 #[v, .int .i64 (n : Int)] w fun e w' => ∃ v', e = .returned v' ∧ w'.ownsRow w.heap.size 5 1 v' bs.length (bvs bs) ∧ Below w.heap.size w w' := by
  obtain ⟨A, c, rfl, hsrc⟩ := Src.of_bytes hb
  obtain ⟨i, hi, hz, hsz, hby⟩ := slB.inf
  have hmk := run_make (P := Tryz.prog) w 33 5 i (.int .u8 0) Tryz.underlying33 hi hz .i64 .i64 (bs.length : Int) ((bs.length : Int) + (n : Int)) (by omega) (by omega) (by rw [hby]; omega) (by omega)
  rw [hsz, show ((bs.length : Int) + (n : Int)).toNat = bs.length + n from by omega, show ((bs.length : Int)).toNat = bs.length from by omega, Nat.mul_one] at hmk
  have hmc : (madeCells (Value.int .u8 0).cells (bs.length + n)).toList = List.replicate (bs.length + n) (.int .u8 0) := toList_madeCells_one _ _
  obtain ⟨mc, hmc'⟩ : ∃ mc, mc = madeCells (Value.int .u8 0).cells (bs.length + n) := ⟨_, rfl⟩
  rw [← hmc'] at hmk hmc
  obtain ⟨L, hL⟩ : ∃ L, L = bs.length := ⟨_, rfl⟩
  have hlen : (bvs bs).length = L := by simp [bvs, hL]
  have hLn : L + n ≤ 70368744177664 := by omega
  have hmcl : mc.toList.length = L + n := by rw [hmc]; simp [hL]
  rw [← hL] at hmk hsrc ⊢
  have HL : Hid (L = bs.length) := hL
  have Hlen : Hid ((bvs bs).length = L) := hlen
  have Hmc : Hid (mc = madeCells (Value.int .u8 0).cells (bs.length + n)) := hmc'
  have Hmcl : Hid (mc.toList.length = L + n) := hmcl
  clear hL hlen hmc hmc' hmcl hi hz hsz hby
  have hg0 : (w.alloc (.cells mc 5)).heap[w.heap.size]? = some (.cells mc 5 (0, 0)) := heap_alloc_new w _
  go_enter Tryz.func118, Tryz.ntmps118
  go_wp2_with (refine wp_copy0 (.tmp 13) (.tmp 14) slB rfl rfl rfl rfl hg0 (news := bvs bs) ?c1 (oneCell_bvs bs) ?c2 ?_)
  case c1 => exact ⟨hsrc.1, fun j u hu => by obtain ⟨g, off, h1, h2⟩ := hsrc.2 j u hu; exact ⟨g, off, h1, (World.cell?_of_block (Below.heap_alloc w _ g (lt_of_cell h2))).trans h2⟩⟩
  case c2 => have := Hmcl.out; rw [Array.length_toList] at this; omega
  intro w2 hw2 hG2
  go_wp2
  go_ret
  have hl := Hlen.out
  have hm := Hmcl.out
  refine ⟨_, rfl, ?_, ((Below.refl _ _).alloc (Nat.le_refl _) _).grown hG2 (by simp) (by intro k hk; injection hk with hk; omega)⟩
  refine ⟨by omega, .inr ⟨w.heap.size, L + n, _, rfl, Nat.le_refl _, hw2, by omega, by simp only [maxLen]; omega, ?_, ?_⟩⟩
  · simp only [List.size_toArray, List.length_append, List.length_drop, hl, hm]
    omega
  · rw [Nat.mul_one, ← hl, List.take_left']
    rfl

theorem ext_i (v : Value) (bs : List UInt8) (n : Int) (F : Nat → Prop) (w : World) (hb : Rd w F v (bys bs)) (h0 : 0 ≤ n) (hn : (bs.length : Int) + n ≤ 70368744177664) :
    Calls Tryz.prog 118 #[v, .int .i64 n] w fun e w' => ∃ v', e = .returned v' ∧ w'.ownsRow w.heap.size 5 1 v' bs.length (bvs bs) ∧ Below w.heap.size w w' := by
  obtain ⟨m, rfl⟩ := Int.eq_ofNat_of_zero_le h0
  exact ext_any v bs m F w hb (by omega)

def apkT (x size k : Nat) : List UInt8 := (List.range k).map fun i => if i + 1 = size then UInt8.ofNat (x / 128 ^ i % 128) else UInt8.ofNat (x / 128 ^ i % 128 + 128)

theorem or128 : ∀ y : Fin 256, (y.val ||| 128) = y.val % 128 + 128 := by decide +kernel
theorem c_more (x k : Nat) : bits BinOp.or IntKind.u8 ((x : Int) / 2 ^ (7 * k) % 256) 128 = (((x / 128 ^ k % 128 + 128 : Nat)) : Int) := by
  have e : (x : Int) / 2 ^ (7 * k) % 256 = ((x / 128 ^ k % 256 : Nat) : Int) := by
    rw [show (2 : Int) ^ (7 * k) = ((2 ^ (7 * k) : Nat) : Int) from by push_cast; rfl, Nat.pow_mul]
    push_cast
    rfl
  rw [e]
  have h := u8_or_nat (x / 128 ^ k % 256) 128 (by omega) (by omega)
  rw [or128 ⟨x / 128 ^ k % 256, by omega⟩] at h
  simp only [show x / 128 ^ k % 256 % 128 = x / 128 ^ k % 128 from by omega] at h
  exact h
theorem c_last (y : Nat) : bits BinOp.andNot IntKind.u8 (((y % 128 + 128 : Nat)) : Int) 128 = ((y % 128 : Nat) : Int) := by
  have h : bits .andNot .u8 ((y % 128 + 128 : Nat) : Int) 128 = (((y % 128 + 128) &&& (255 - 128) : Nat) : Int) := u8_andNot_nat (y % 128 + 128) 128 (by omega) (by omega)
  rw [show 255 - 128 = 127 from rfl, nat_mask7] at h
  rw [h]
  omega
theorem apkT_succ (x size k : Nat) : apkT x size (k + 1) = apkT x size k ++ [if k + 1 = size then UInt8.ofNat (x / 128 ^ k % 128) else UInt8.ofNat (x / 128 ^ k % 128 + 128)] := by
  simp [apkT, List.range_succ]
theorem byteV_of {n : Nat} (h : n < 256) : byteV (UInt8.ofNat n) = .int .u8 (n : Int) := by
  unfold byteV
  rw [UInt8.toNat_ofNat', Nat.mod_eq_of_lt h]
theorem bvs_snoc (bs : List UInt8) (c : UInt8) : bvs (bs ++ [c]) = bvs bs ++ [byteV c] := by simp [bvs]
theorem app_last {x size k : Nat} (xs : List UInt8) (h : k + 1 = size) : bvs (xs ++ apkT x size k) ++ [.int .u8 (bits BinOp.andNot IntKind.u8 (bits BinOp.or IntKind.u8 ((x : Int) / 2 ^ (7 * k) % 256) 128) 128)] = bvs (xs ++ apkT x size (k + 1)) := by
  rw [c_more, c_last, apkT_succ, if_pos h, ← List.append_assoc, bvs_snoc, byteV_of (by omega)]
theorem app_more {x size k : Nat} (xs : List UInt8) (h : ¬ k + 1 = size) : bvs (xs ++ apkT x size k) ++ [.int .u8 (bits BinOp.or IntKind.u8 ((x : Int) / 2 ^ (7 * k) % 256) 128)] = bvs (xs ++ apkT x size (k + 1)) := by
  rw [c_more, apkT_succ, if_neg h, ← List.append_assoc, bvs_snoc, byteV_of (by omega)]

set_option maxHeartbeats 400000 in
theorem app_any (v : Value) (xs : List UInt8) (x size base : Nat) (w : World) (ho : w.ownsRow base 5 1 v xs.length (bvs xs)) (hb : base ≤ w.heap.size) (_hx : x < 18446744073709551616) (hs : size ≤ 10) (hl : xs.length ≤ 70368744177664) :
    Calls Tryz.prog 129 #[v, .int .u64 (x : Int), .int .i64 (size : Int)] w fun e w' => ∃ v', e = .returned v' ∧ w'.ownsRow base 5 1 v' (xs.length + size) (bvs (xs ++ apk x size)) ∧ Ch (ownB v) w w' := by
  go_enter Tryz.func129, Tryz.ntmps129
  go_wp2
  go_loopw [0, 10] (fun v' i wr => ∃ k : Nat, k ≤ size ∧ i = .int .i64 k ∧ wr.ownsRow base 5 1 v' (xs.length + k) (bvs (xs ++ apkT x size k)) ∧ Ch (ownB v) w wr ∧ (∀ b, v'.ownBlock = some b → v.ownBlock = some b ∨ w.heap.size ≤ b)) (fun _ i _ => size - (intOf i).toNat)
  case atStart => exact ⟨0, Nat.zero_le _, rfl, by simpa [apkT] using ho, Ch.refl _ _, fun b hb => .inl hb⟩
  case round =>
    obtain ⟨k, hk, rfl, hown, hch, hat⟩ := hrel
    by_cases hlt : k < size
    · by_cases hlast : k + 1 = size
      · go_wp2_with (refine wp_push (.tmp 25) (.tmp 26) 27 slB rfl rfl rfl rfl rfl rfl rfl rfl (by simp) rfl hown (by simp only [maxLen]; omega) (by omega) (by have := hch.size; omega) ?_)
        intro v2 w2 hO hG hat2
        rw [app_last xs hlast] at hO
        go_wp2
        go_roundw
        case rel => exact ⟨k + 1, by omega, by go_num, hO, hch.grow hG (fun b hb => hat b hb), fun b hb => by
          rcases hat2 with h2 | ⟨g, h2, h3⟩
          · exact hat b (h2.symm.trans hb)
          · rw [h2] at hb; injection hb with hb; have := hch.size; exact .inr (by omega)⟩
        case measure => simp [intOf]; omega
      · go_wp2_with (refine wp_push (.tmp 25) (.tmp 26) 27 slB rfl rfl rfl rfl rfl rfl rfl rfl (by simp) rfl hown (by simp only [maxLen]; omega) (by omega) (by have := hch.size; omega) ?_)
        intro v2 w2 hO hG hat2
        rw [app_more xs hlast] at hO
        go_wp2
        go_roundw
        case rel => exact ⟨k + 1, by omega, by go_num, hO, hch.grow hG (fun b hb => hat b hb), fun b hb => by
          rcases hat2 with h2 | ⟨g, h2, h3⟩
          · exact hat b (h2.symm.trans hb)
          · rw [h2] at hb; injection hb with hb; have := hch.size; exact .inr (by omega)⟩
        case measure => simp [intOf]; omega
    · go_wp2
      go_ret
      have : k = size := by omega
      subst this
      exact ⟨_, rfl, hown, hch⟩
end Go.Proofs.YtnhhbbjkeekneaaGreatDoor
/- N3: contracts of PutPacked, PutFolded, PutText, New. -/
namespace Go.Proofs.YtnhhbbjkeekneaaGreatDoor
open Go.RowKit Go.V

/-- a new slice of bytes, nothing else turned -/
def NewB (w w' : World) (v : Value) (bs : List UInt8) : Prop := w'.ownsRow w.heap.size 5 1 v bs.length (bvs bs) ∧ Below w.heap.size w w'
theorem NewB.rd {w w' : World} {v : Value} {bs : List UInt8} (h : NewB w w' v bs) : Rd w' (fun b => w.heap.size ≤ b) v (bys bs) := Rd.of_own h.1
theorem len_packed (bs : List UInt8) (x : Nat) : (bs ++ packed x).length = bs.length + psz x := by rw [List.length_append, length_packed]

theorem putp_any (v : Value) (bs : List UInt8) (x : Nat) (F : Nat → Prop) (w : World) (hb : Rd w F v (bys bs)) (hx : x < 18446744073709551616) (hn : bs.length ≤ 35184372088832) :
    Calls Tryz.prog 97 #[v, .int .u64 (x : Int)] w fun e w' => ∃ v', e = .returned v' ∧ NewB w w' v' (bs ++ packed x) := by
  have hp := psz_bd x
  go_enter Tryz.func97, Tryz.ntmps97
  go_wp2_with (fail)
  refine (psize_any x _ hx).mono ?_
  rintro e w' ⟨rfl, rfl⟩
  go_wp2_with (fail)
  refine (ext_any v bs (psz x) F _ hb (by omega)).mono ?_
  rintro e w1 ⟨v1, rfl, ho1, hB1⟩
  go_wp2_with (fail)
  refine (app_any v1 bs x (psz x) _ _ ho1 hB1.size hx hp.2 (by omega)).mono ?_
  rintro e w2 ⟨v2, rfl, ho2, hC2⟩
  go_wp2
  go_ret
  rw [apk_psz x hx] at ho2
  exact ⟨v2, rfl, by unfold NewB; rw [len_packed]; exact ⟨ho2, Ch.below_of hB1 hC2 (fun k hk => (ho1.lt k hk).1) hB1.size⟩⟩

theorem putf_any (v : Value) (bs : List UInt8) (x : Int) (F : Nat → Prop) (w : World) (hb : Rd w F v (bys bs)) (h1 : -9223372036854775808 ≤ x) (h2 : x ≤ 9223372036854775807) (hn : bs.length ≤ 35184372088832) :
    Calls Tryz.prog 143 #[v, .int .i64 x] w fun e w' => ∃ v', e = .returned v' ∧ NewB w w' v' (bs ++ packed (foldN x)) := by
  go_enter Tryz.func143, Tryz.ntmps143
  go_wp2_with (fail)
  refine (fold_any x _ h1 h2).mono ?_
  rintro e w' ⟨rfl, rfl⟩
  go_wp2_with (fail)
  refine (putp_any v bs (foldN x) F _ hb (foldN_lt x h1 h2) hn).mono ?_
  rintro e w1 ⟨v1, rfl, ho1⟩
  go_wp2
  go_ret
  exact ⟨v1, rfl, ho1⟩

theorem putt_any (v tv : Value) (bs ts : List UInt8) (F G : Nat → Prop) (w : World) (hb : Rd w F v (bys bs)) (ht : Rd w G tv (bys ts)) (hn : bs.length ≤ 17592186044416) (hm : ts.length ≤ 17592186044416) :
    Calls Tryz.prog 96 #[v, tv] w fun e w' => ∃ v', e = .returned v' ∧ NewB w w' v' (bs ++ (packed ts.length ++ ts)) := by
  have hp := psz_bd ts.length
  have ht' := ht
  obtain ⟨A, c, rfl, hsrc⟩ := Src.of_bytes ht'
  go_enter Tryz.func96, Tryz.ntmps96
  go_wp2_with (fail)
  refine (psize_any _ _ (by omega)).mono ?_
  rintro e w' ⟨rfl, rfl⟩
  go_wp2_with (fail)
  refine (ext_i v bs _ F _ hb (by omega) (by omega)).mono ?_
  rintro e w1 ⟨v1, rfl, ho1, hB1⟩
  go_wp2_with (fail)
  refine (app_any v1 bs _ _ _ _ ho1 hB1.size (by omega) hp.2 (by omega)).mono ?_
  rintro e w2 ⟨v2, rfl, ho2, hC2⟩
  have hB2 := Ch.below_of hB1 hC2 (fun k hk => (ho1.lt k hk).1) hB1.size
  rw [apk_psz _ (by omega)] at ho2
  go_wp2_with (refine wp_app (.tmp 22) (.tmp 23) slB rfl rfl rfl ho2 rfl (ht.below hB2).src (oneCell_bvs ts) (by simp only [maxLen]; omega) (by omega) hB2.size ?_)
  intro v3 w3 ho3 hG3 _
  go_wp2
  go_ret
  refine ⟨v3, rfl, ?_, hB2.grown hG3 hB2.size (fun k hk => (ho2.lt k hk).1)⟩
  have e1 : bvs (bs ++ packed ts.length) ++ bvs ts = bvs (bs ++ (packed ts.length ++ ts)) := by simp [bvs]
  rw [e1] at ho3
  rw [show (bs ++ (packed ts.length ++ ts)).length = bs.length + psz ts.length + ts.length from by simp [length_packed]; omega]
  exact ho3

/-- a reader in block p: its bytes, and how many were read -/
def RdR (w : World) (p : Nat) (F : Nat → Prop) (bs : List UInt8) (at_ : Nat) : Prop :=
  ∃ v, w.heap[p]? = some (.cells #[v, .int .i64 (at_ : Int)] 177 (0, 0)) ∧ Rd w F v (bys bs) ∧ at_ ≤ bs.length ∧ ¬ F p

theorem RdR.keep {w w' : World} {p : Nat} {F : Nat → Prop} {bs : List UInt8} {k : Nat} (h : RdR w p F bs k) (hp : w'.heap[p]? = w.heap[p]?) (hF : ∀ b, b < w.heap.size → F b → w'.heap[b]? = w.heap[b]?) : RdR w' p F bs k := by
  obtain ⟨v, h1, h2, h3⟩ := h
  exact ⟨v, hp.trans h1, h2.keep (fun b hb hf => ⟨hf, hF b hb hf⟩), h3⟩
theorem RdR.drewN {w : World} {p : Nat} {F : Nat → Prop} {bs : List UInt8} {k : Nat} (h : RdR w p F bs k) (n : Nat) : RdR (w.drewN n) p F bs k := h.keep rfl (fun _ _ _ => rfl)

theorem RdR.belowR {w w' : World} {p : Nat} {F : Nat → Prop} {bs : List UInt8} {k : Nat} (h : RdR w p F bs k) (hB : Below w.heap.size w w') : RdR w' p F bs k := by
  obtain ⟨v, h1, _⟩ := id h
  exact h.keep (hB.block p (lt_of_block h1)) (fun b hb _ => hB.block b hb)
set_option maxHeartbeats 400000 in
theorem new_any (v : Value) (bs : List UInt8) (F : Nat → Prop) (w : World) (hb : Rd w F v (bys bs)) (hn : bs.length ≤ 35184372088832) :
    Calls Tryz.prog 83 #[v] w fun e w' => ∃ p, e = .returned (.pointer (some ⟨p, 0, none⟩)) ∧ w.heap.size ≤ p ∧ RdR w' p (fun b => w.heap.size ≤ b ∧ b < p) bs 0 ∧ Below w.heap.size w w' := by
  go_enter Tryz.func83, Tryz.ntmps83
  go_wp2_with (fail)
  refine (ext_i v bs _ F _ hb (by omega) (by omega)).mono ?_
  rintro e w1 ⟨v1, rfl, ho1, hB1⟩
  obtain ⟨A1, c1, rfl⟩ := own_shape ho1
  go_wp2
  go_ret
  have hB2 : Below w.heap.size w1 (w1.alloc (Obj.cells #[.slice A1 bs.length c1, .int .i64 0] 177)) := (Below.refl _ _).alloc hB1.size _
  exact ⟨w1.heap.size, rfl, hB1.size, ⟨_, heap_alloc_new w1 _, (Rd.of_own' ho1 fun b h1 h2 => ⟨h1, h2⟩).below ((Below.refl _ _).alloc (Nat.le_refl _) _), Nat.zero_le _, fun h => by omega⟩, hB1.trans hB2⟩
end Go.Proofs.YtnhhbbjkeekneaaGreatDoor
/- R2: several texts in one. -/
/- R1: contracts of the document's answers for layer 1 that hold bytes. -/
namespace Go.Proofs.YtnhhbbjkeekneaaGreatDoor
open Go.RowKit Go.V

/-- a fixed number's bytes -/
def fixB (n x : Nat) : List UInt8 := (List.range n).map fun i => UInt8.ofNat (x / 256 ^ (n - 1 - i) % 256)
def okN (n : Int) : Prop := n = 1 ∨ n = 2 ∨ n = 4 ∨ n = 8
instance (n : Int) : Decidable (okN n) := by unfold okN; infer_instance
def fixR (n : Int) (x : Nat) : List UInt8 := if okN n then fixB n.toNat x else []
end Go.Proofs.YtnhhbbjkeekneaaGreatDoor
/- R2: fixed numbers put, by the program and by the document. -/
namespace Go.Proofs.YtnhhbbjkeekneaaGreatDoor
open Go.RowKit Go.V
def fixT (n x k : Nat) : List UInt8 := (List.range k).map fun i => UInt8.ofNat (x / 256 ^ (n - 1 - i) % 256)
theorem fixT_succ (n x k : Nat) : fixT n x (k + 1) = fixT n x k ++ [UInt8.ofNat (x / 256 ^ (n - 1 - k) % 256)] := by simp [fixT, List.range_succ]
theorem okN_cases {n : Int} (h : okN n) : ∃ m : Nat, n = m ∧ (m = 1 ∨ m = 2 ∨ m = 4 ∨ m = 8) := by
  unfold okN at h
  rcases h with h | h | h | h
  · exact ⟨1, h, by omega⟩
  · exact ⟨2, h, by omega⟩
  · exact ⟨4, h, by omega⟩
  · exact ⟨8, h, by omega⟩
theorem okN_bool (n : Int) : decide (n = 1 ∨ n = 2 ∨ n = 4 ∨ n = 8) = decide (okN n) := rfl

theorem fix_byte (x j : Nat) : (x : Int) / 2 ^ (8 * j) % 256 = ((x / 256 ^ j % 256 : Nat) : Int) := by
  rw [show (2 : Int) ^ (8 * j) = ((2 ^ (8 * j) : Nat) : Int) from by push_cast; rfl, Nat.pow_mul, Int.natCast_emod, Int.natCast_ediv]
  rfl
theorem fix_push {n x k : Nat} (bs : List UInt8) : bvs (bs ++ fixT n x k) ++ [.int .u8 ((x : Int) / 2 ^ (8 * (n - 1 - k)) % 256)] = bvs (bs ++ fixT n x (k + 1)) := by
  rw [fix_byte, fixT_succ, ← List.append_assoc, bvs_snoc, byteV_of (by omega)]

set_option maxHeartbeats 400000 in
theorem putx_any (v : Value) (bs : List UInt8) (x : Nat) (n : Int) (F : Nat → Prop) (w : World) (hb : Rd w F v (bys bs)) (_hx : x < 18446744073709551616) (hl : bs.length ≤ 35184372088832) :
    Calls Tryz.prog 95 #[v, .int .u64 (x : Int), .int .i64 n] w fun e w' => ∃ v', e = .returned v' ∧ NewB w w' v' (bs ++ fixR n x) := by
  by_cases ho : okN n
  · obtain ⟨m, rfl, hm⟩ := okN_cases ho
    have hd : decide (okN (m : Int)) = true := decide_eq_true ho
    have Hr : Hid (fixR (m : Int) x = fixT m x m) := by show _ = _; unfold fixR; rw [if_pos ho]; rfl
    have hm8 : m ≤ 8 := by omega
    clear ho hm
    go_enter Tryz.func95, Tryz.ntmps95
    go_wp2_with (fail)
    refine (fsize_any _ _).mono ?_
    rintro e w0 ⟨rfl, rfl⟩
    rw [okN_bool]
    go_wp2_with (fail)
    refine (ext_i v bs _ F _ hb (by omega) (by omega)).mono ?_
    rintro e w1 ⟨v1, rfl, ho1, hB1⟩
    go_wp2
    go_loopw [7, 18] (fun v' i wr => ∃ k : Nat, k ≤ m ∧ i = .int .i64 k ∧ NewB w wr v' (bs ++ fixT m x k)) (fun _ i _ => m - (intOf i).toNat)
    case atStart => exact ⟨0, Nat.zero_le _, rfl, by simpa [fixT] using ho1, hB1⟩
    case round =>
      obtain ⟨k, hk, rfl, hown, hB⟩ := hrel
      by_cases hlt : k < m
      · have hlen : (bs ++ fixT m x k).length ≤ 35184372088840 := by simp [fixT]; omega
        go_wp2_with (refine wp_push (.tmp 21) (.tmp 29) 30 slB rfl rfl rfl rfl rfl rfl rfl rfl (by simp) rfl hown (by simp only [maxLen]; omega) (by omega) hB.size ?_)
        intro v2 w2 hO hG _
        go_wp2
        rw [fix_push] at hO
        refine ⟨⟨k + 1, by omega, by go_num, ?_, hB.grown hG hB.size (fun k hk => (hown.lt k hk).1)⟩, by simp [intOf]; omega⟩
        rw [show (bs ++ fixT m x (k + 1)).length = bs.length + (fixT m x k).length + 1 from by simp [fixT]; omega]
        exact hO
      · go_wp2
        go_ret
        have : k = m := by omega
        subst this
        exact ⟨_, rfl, by rw [Hr.out]; exact ⟨hown, hB⟩⟩
  · have hd : decide (okN n) = false := decide_eq_false ho
    have Hr : Hid (bs ++ fixR n x = bs) := by show _ = _; unfold fixR; rw [if_neg ho]; simp
    clear ho
    go_enter Tryz.func95, Tryz.ntmps95
    go_wp2_with (fail)
    refine (fsize_any _ _).mono ?_
    rintro e w0 ⟨rfl, rfl⟩
    rw [okN_bool]
    go_wp2_with (fail)
    refine (ext_i v bs _ F _ hb (by omega) (by omega)).mono ?_
    rintro e w1 ⟨v1, rfl, ho1, hB1⟩
    go_wp2
    go_ret
    exact ⟨v1, rfl, by rw [Hr.out]; exact ⟨ho1, hB1⟩⟩

end Go.Proofs.YtnhhbbjkeekneaaGreatDoor
/- RB: contract of the document's Bytes (a digest's bytes). -/
namespace Go.Proofs.YtnhhbbjkeekneaaGreatDoor
open Go.RowKit Go.V
end Go.Proofs.YtnhhbbjkeekneaaGreatDoor
