/- Q6: layer 7: a request's text read: contract of readText. -/
import Derived.Test.YthdkfcbfjhdpoaaQ5
import Derived.Test.YthdkfcbfjhdpoaaN6
import Derived.Test.YthdkfcbfjhdpoaaN7
namespace Go.Proofs.Ythdkfcbfjhdpoaa
open Go.RowKit Go.V
theorem four_rd (c s k y : Nat) (hc : c < 256) (hs : s < 256) (hk : k < 256) (hy : y < 256) (R : List UInt8) (i : Nat) (hi : i < 4) : ∃ n : Nat, n < 256 ∧ ([.int .i64 (c : Int), .int .i64 (s : Int), .int .i64 (k : Int), .int .i64 (y : Int)] : List Value)[i]? = some (.int .i64 (n : Int)) ∧
    fixRd 1 (([UInt8.ofNat c, UInt8.ofNat s, UInt8.ofNat k, UInt8.ofNat y] ++ R).drop i) = .ok n := by
  have one : ∀ (n : Nat) (l : List UInt8), n < 256 → fixRd 1 (UInt8.ofNat n :: l) = .ok n := fun n l hn => by
    unfold fixRd
    rw [if_pos (by unfold okN; omega), if_neg (by simp)]
    simp [fixN, Nat.mod_eq_of_lt hn]
  match i, hi with
  | 0, _ => exact ⟨c, hc, rfl, one _ _ hc⟩
  | 1, _ => exact ⟨s, hs, rfl, one _ _ hs⟩
  | 2, _ => exact ⟨k, hk, rfl, one _ _ hk⟩
  | 3, _ => exact ⟨y, hy, rfl, one _ _ hy⟩
theorem sizeI7 : (Try.prog.info? 3).map (·.size) = some 1 := by kernel_rfl
theorem sizeL7 : (Try.prog.info? 2).map (·.size) = some 1 := by kernel_rfl
theorem sizeO : (Try.prog.info? 23).map (·.size) = some 4 := by kernel_rfl
theorem zeroO : (Try.prog.info? 23).map (·.zero) = some (some (.agg [.int .i64 0, .int .i64 0, .int .i64 0, .int .i64 0].toArray)) := by kernel_rfl
def zQ : List Value := [.int .i64 0, .int .i64 0, .int .i64 0, .int .i64 0, .int .i64 0, .int .i64 0, .slice none 0 0]
set_option maxRecDepth 100000 in
set_option maxHeartbeats 2000000 in
theorem readText_any (v : Value) (r : Rq) (F : Nat → Prop) (w : World) (hv : Rd w F v (bys r.text)) (ha : in64 r.a) (hb : in64 r.b) (hf : r.fm = true) :
    Calls Try.prog 26 #[v] w fun e w' => e = .returned (.tuple #[r.v (.slice none 0 0), .int .i64 0]) ∧ Below w.heap.size w w' := by
  have hbd := fm_bd hf
  have htt : r.text = (r.four ++ packed (foldN r.a)) ++ packed (foldN r.b) := rfl
  have hfo : r.four = [UInt8.ofNat r.c.toNat, UInt8.ofNat r.s.toNat, UInt8.ofNat r.k.toNat, UInt8.ofNat r.y.toNat] := rfl
  obtain ⟨A, cp, rfl⟩ := hv.shape
  have hlt := len_text r
  rw [hfo] at htt
  obtain ⟨X, hX⟩ : ∃ X, X = r.text := ⟨_, rfl⟩
  rw [← hX] at htt hv hlt ⊢
  clear hX hfo hf
  unfold Rq.v
  obtain ⟨c, s, k, y, a, b, g⟩ := r
  dsimp only at hbd htt ha hb ⊢
  obtain ⟨C, S, K, Y, rfl, rfl, rfl, rfl, hC, _, hS, hK, hY, _⟩ := hbd
  rw [Int.toNat_natCast, Int.toNat_natCast, Int.toNat_natCast, Int.toNat_natCast] at htt
  have h4 := four_rd C S K Y (by omega) (by omega) (by omega) (by omega) (packed (foldN a) ++ packed (foldN b))
  rw [← List.append_assoc, ← htt] at h4
  have hd4 : X.drop 4 = packed (foldN a) ++ packed (foldN b) := by rw [htt]; rfl
  have hd5 : X.drop (4 + psz (foldN a)) = packed (foldN b) := by
    rw [← List.drop_drop, hd4, ← length_packed, List.drop_left]
  have hr4 : readPk (X.drop 4) = .ok (foldN a, psz (foldN a)) := by rw [hd4]; exact readPk_packed _ _ (foldN_lt a ha.1 ha.2)
  have hr5 : readPk (X.drop (4 + psz (foldN a))) = .ok (foldN b, psz (foldN b)) := by rw [hd5, ← List.append_nil (packed (foldN b))]; exact readPk_packed _ _ (foldN_lt b hb.1 hb.2)
  have hXl : X.length = 4 + psz (foldN a) + psz (foldN b) := by rw [htt, List.length_append, List.length_append, length_packed, length_packed]; rfl
  have hB : Below w.heap.size w (w.alloc (.cells #[.int .i64 0, .int .i64 0, .int .i64 0, .int .i64 0, .int .i64 0, .int .i64 0, .slice none 0 0] 26)) := (Below.refl _ _).alloc (Nat.le_refl _) _
  have hz := Blk.new' w 26 zQ
  have hbr := hv.below hB
  clear htt hd4 hd5
  have Hr4 := hid hr4
  have Hr5 := hid hr5
  have HXl := hid hXl
  have H4 := hid h4
  clear hr4 hr5 hXl h4
  go_enter Try.func26, Try.ntmps26
  go_wp2_with (fail)
  obtain ⟨w0, hw0⟩ : ∃ w0, w0 = w.alloc (.cells #[.int .i64 0, .int .i64 0, .int .i64 0, .int .i64 0, .int .i64 0, .int .i64 0, .slice none 0 0] 26) := ⟨_, rfl⟩
  have hz : Blk w0 w.heap.size 26 zQ := by rw [hw0]; exact hz
  rw [← hw0] at hB hbr ⊢
  clear hw0
  obtain ⟨g0, hg0⟩ : ∃ g, g = w.heap.size := ⟨_, rfl⟩
  rw [← hg0] at hz ⊢
  have hgw : w.heap.size ≤ g0 := by omega
  clear hg0
  refine (new_any _ X F _ hbr (by omega)).mono ?_
  rintro e w1 ⟨p, rfl, hp, hr1, hB1⟩
  have hB1' : Below w.heap.size w w1 := hB.trans (hB1.mono hB.size)
  have hz1 := hz.below hB1
  have hgl := hz.lt
  have hpw : w.heap.size ≤ p := by have := hB.size; omega
  have hpl : p < w1.heap.size := by obtain ⟨_, h, _⟩ := hr1; exact lt_of_block h
  obtain ⟨FF, hFF⟩ : ∃ FF, FF = fun b => w0.heap.size ≤ b ∧ b < p := ⟨_, rfl⟩
  rw [← hFF] at hr1
  have hFp : ∀ b, FF b → b < p ∧ g0 < b := fun b h => by rw [hFF] at h; exact ⟨h.2, by have := h.1; omega⟩
  clear hFF
  have hal2 : Below w1.heap.size w1 (w1.alloc (.cells #[.int .i64 0, .int .i64 0, .int .i64 0, .int .i64 0] 47)) := (Below.refl _ _).alloc (Nat.le_refl _) _
  have hs2 := Blk.new' w1 47 [.int .i64 0, .int .i64 0, .int .i64 0, .int .i64 0]
  have hr2 := hr1.belowR hal2
  have hz2 := hz1.below hal2
  have hB2 := hB1'.trans (hal2.mono hB1'.size)
  clear hz hbr hr1 hz1 hal2
  go_wp2
  obtain ⟨w2, hw2⟩ : ∃ w0, w0 = w1.alloc (.cells #[.int .i64 0, .int .i64 0, .int .i64 0, .int .i64 0] 47) := ⟨_, rfl⟩
  rw [← hw2] at hs2 hr2 hz2 hB2 ⊢
  clear hw2
  obtain ⟨gs, hgs⟩ : ∃ g, g = w1.heap.size := ⟨_, rfl⟩
  rw [← hgs] at hs2 ⊢
  have hps : p < gs := by omega
  clear hgs hpl
  obtain ⟨L, hL⟩ : ∃ L : List Value, L = [.int .i64 (C : Int), .int .i64 (S : Int), .int .i64 (K : Int), .int .i64 (Y : Int)] := ⟨_, rfl⟩
  have hLl : L.length = 4 := by rw [hL]; rfl
  have h4 := H4.out
  rw [← hL] at h4
  have HL := hid hL
  have HLl := hid hLl
  clear hL H4 hLl
  go_loopw [17] (fun iv wr => ∃ i : Nat, i ≤ 4 ∧ iv = .int .i64 i ∧ RdR wr p FF X i ∧ Blk wr gs 47 (L.take i ++ List.replicate (4 - i) (.int .i64 0)) ∧ Blk wr g0 26 zQ ∧ Below w.heap.size w wr) (fun i _ => 4 - (intOf i).toNat)
  case atStart => exact ⟨0, Nat.zero_le _, rfl, hr2, hs2, hz2, hB2⟩
  case round =>
    obtain ⟨i, hi, rfl, hr3, hs3, hz3, hB3⟩ := hrel
    by_cases hlt : i < 4
    · obtain ⟨n, hn, hat, hrd⟩ := h4 i hlt
      have hI : (i : Int) < 4 := by omega
      have hwn : IntKind.i64.wrap (n : Int) = (n : Int) := IntWalk.i64_in _ (by omega)
      have f1 := fixed_any p _ X i 1 _ hr3
      rw [hrd] at f1
      have Hf := hid f1
      have Hat := hid hat
      clear f1 hat hrd h4 hr3
      have Hfl := hid (fill_set L (.int .i64 0) 4 i HLl.out hlt (.int .i64 (n : Int)) Hat.out)
      have Hlen : Hid ((L.take i ++ List.replicate (4 - i) (Value.int .i64 0)).length = 4) := by
        show _ = _
        rw [List.length_append, List.length_take, List.length_replicate, HLl.out]; omega
      go_wp2_with (fail)
      refine Hf.out.mono ?_
      rintro e w4 ⟨rfl, hr4, hC4⟩
      have hs4 := hs3.ch hC4 (by intro h; have h' : gs = p := h; omega)
      have hz4 := hz3.ch hC4 (by intro h; have h' : g0 = p := h; omega)
      have hB4 := Ch.below_of hB3 hC4 (fun k hk => by have : k = p := hk; omega) hB3.size
      simp only [eF]
      go_wp2_with (refine wp_st1 3 (.tmp 32) (.tmp 31) rfl rfl rfl (f := i) rfl (v := .int .i64 (n : Int)) rfl hs4 (by rw [Hlen.out]; omega) sizeI7 rfl rfl ?_; intro w5 hs5 hG5; rw [Hfl.out] at hs5)
      go_roundw
      case rel => 
        refine ⟨i + 1, by omega, by go_num, ?_, hs5, hz4.keep (hG5.block _ hz4.lt (by intro h; injection h with h; omega)), hB4.grown hG5 hB4.size (by intro k hk; injection hk with hk; omega)⟩
        obtain ⟨_, hpb, _⟩ := id hr4
        refine RdR.keep (k := i + 1) hr4 (hG5.block _ (lt_of_block hpb) (by intro h; injection h with h; omega)) (fun b hb hF => hG5.block _ hb (by intro h; injection h with h; have := hFp b hF; omega))
      case measure => simp [intOf]; omega
    · have h4' : i = 4 := by omega
      subst h4'
      have hI : ¬ (4 : Int) < 4 := by omega
      have hs3 : Blk wr gs 47 [.int .i64 (C : Int), .int .i64 (S : Int), .int .i64 (K : Int), .int .i64 (Y : Int)] := by
        rw [← HL.out, ← List.append_nil L, ← show L.take 4 = L from List.take_of_length_le (by rw [HLl.out]; omega)]
        exact hs3
      clear h4 HL HLl
      have hal4 : Below wr.heap.size wr (wr.alloc (.cells #[.int .i64 0, .int .i64 0] 71)) := (Below.refl _ _).alloc (Nat.le_refl _) _
      have hy4 := Blk.new' wr 71 [.int .i64 0, .int .i64 0]
      have hr4 := hr3.belowR hal4
      have hz4 := hz3.below hal4
      have hs4 := hs3.below hal4
      have hsl := hs3.lt
      have hB4 := hB3.trans (hal4.mono hB3.size)
      clear hr3 hz3 hs3 hal4 hs2 hr2 hz2
      go_wp2
      obtain ⟨w4, hw4⟩ : ∃ w0, w0 = wr.alloc (.cells #[.int .i64 0, .int .i64 0] 71) := ⟨_, rfl⟩
      rw [← hw4] at hs4 hr4 hz4 hB4 hy4 ⊢
      clear hw4
      obtain ⟨gy, hgy⟩ : ∃ g, g = wr.heap.size := ⟨_, rfl⟩
      rw [← hgy] at hy4 ⊢
      have hsy : gs < gy := by omega
      clear hgy
      have hp4 := psz_bd (foldN a)
      have hp5 := psz_bd (foldN b)
      have hun := unfoldZ_foldN a
      have hun2 := unfoldZ_foldN b
      have HXl' := HXl.out
      go_loopw [34] (fun iv wr => ∃ (m : Nat) (l : List Value), RdR wr p FF X m ∧ Blk wr gy 71 l ∧ Blk wr gs 47 [.int .i64 (C : Int), .int .i64 (S : Int), .int .i64 (K : Int), .int .i64 (Y : Int)] ∧ Blk wr g0 26 zQ ∧ Below w.heap.size w wr ∧
        ((iv = .int .i64 0 ∧ m = 4 ∧ l = [.int .i64 0, .int .i64 0]) ∨ (iv = .int .i64 1 ∧ m = 4 + psz (foldN a) ∧ l = [.int .i64 a, .int .i64 0]) ∨ (iv = .int .i64 2 ∧ m = X.length ∧ l = [.int .i64 a, .int .i64 b]))) (fun i _ => 4 - (intOf i).toNat)
      case atStart => exact ⟨4, _, hr4, hy4, hs4, hz4, hB4, .inl ⟨rfl, rfl, rfl⟩⟩
      case round =>
        obtain ⟨m, l, hr5, hy5, hs5, hz5, hB5, h | h | h⟩ := hrel
        · obtain ⟨rfl, rfl, rfl⟩ := h
          have f1 := folded_any p _ X 4 _ hr5
          rw [Hr4.out] at f1
          have Hf := hid f1
          clear f1 hr5
          go_wp2_with (fail)
          refine Hf.out.mono ?_
          rintro e w6 ⟨rfl, hr6, hC6⟩
          have hs6 := hs5.ch hC6 (by intro h; have h' : gs = p := h; omega)
          have hz6 := hz5.ch hC6 (by intro h; have h' : g0 = p := h; omega)
          have hy6 := hy5.ch hC6 (by intro h; have h' : gy = p := h; omega)
          have hB6 := Ch.below_of hB5 hC6 (fun k hk => by have : k = p := hk; omega) hB5.size
          simp only [e2, hun, lenP] at hr6 ⊢
          go_wp2_with (refine wp_st1 2 (.tmp 48) (.tmp 47) rfl rfl rfl (f := 0) rfl (v := .int .i64 a) rfl hy6 (by simp) sizeL7 rfl rfl ?_; intro w7 hy7 hG7)
          go_roundw
          case rel =>
            refine ⟨4 + psz (foldN a), _, ?_, hy7, hs6.keep (hG7.block _ hs6.lt (by intro h; injection h with h; omega)), hz6.keep (hG7.block _ hz6.lt (by intro h; injection h with h; omega)), hB6.grown hG7 hB6.size (by intro k hk; injection hk with hk; omega), .inr (.inl ⟨rfl, rfl, rfl⟩)⟩
            obtain ⟨_, hpb, _⟩ := id hr6
            refine RdR.keep hr6 (hG7.block _ (lt_of_block hpb) (by intro h; injection h with h; omega)) (fun b hb hF => hG7.block _ hb (by intro h; injection h with h; have := hFp b hF; omega))
          case measure => simp [intOf]
        · obtain ⟨rfl, rfl, rfl⟩ := h
          have f1 := folded_any p _ X _ _ hr5
          rw [Hr5.out] at f1
          have Hf := hid f1
          clear f1 hr5
          go_wp2_with (fail)
          refine Hf.out.mono ?_
          rintro e w6 ⟨rfl, hr6, hC6⟩
          have hs6 := hs5.ch hC6 (by intro h; have h' : gs = p := h; omega)
          have hz6 := hz5.ch hC6 (by intro h; have h' : g0 = p := h; omega)
          have hy6 := hy5.ch hC6 (by intro h; have h' : gy = p := h; omega)
          have hB6 := Ch.below_of hB5 hC6 (fun k hk => by have : k = p := hk; omega) hB5.size
          simp only [e2, hun2, lenP] at hr6 ⊢
          rw [← HXl'] at hr6
          go_wp2_with (refine wp_st1 2 (.tmp 48) (.tmp 47) rfl rfl rfl (f := 1) rfl (v := .int .i64 b) rfl hy6 (by simp) sizeL7 rfl rfl ?_; intro w7 hy7 hG7)
          go_roundw
          case rel =>
            refine ⟨X.length, _, ?_, hy7, hs6.keep (hG7.block _ hs6.lt (by intro h; injection h with h; omega)), hz6.keep (hG7.block _ hz6.lt (by intro h; injection h with h; omega)), hB6.grown hG7 hB6.size (by intro k hk; injection hk with hk; omega), .inr (.inr ⟨rfl, rfl, rfl⟩)⟩
            obtain ⟨_, hpb, _⟩ := id hr6
            refine RdR.keep hr6 (hG7.block _ (lt_of_block hpb) (by intro h; injection h with h; omega)) (fun b hb hF => hG7.block _ hb (by intro h; injection h with h; have := hFp b hF; omega))
          case measure => simp [intOf]
        · obtain ⟨rfl, rfl, rfl⟩ := h
          have f1 := done_any p _ X _ _ hr5
          rw [if_neg (by omega)] at f1
          have Hf := hid f1
          clear f1 hr5
          go_wp2_with (fail)
          refine Hf.out.mono ?_
          rintro e w6 ⟨rfl, nn, rfl⟩
          have hs6 := hs5.drewN nn
          have hz6 := hz5.drewN nn
          have hy6 := hy5.drewN nn
          have hB6 := below_drewN hB5 nn
          obtain ⟨w6, hw6⟩ : ∃ x, x = wr.drewN nn := ⟨_, rfl⟩
          rw [← hw6] at hs6 hz6 hy6 hB6 ⊢
          clear hw6 hs5 hz5 hy5 hB5
          have c0 := hs6.cellAt 0 _ rfl
          have c1 := hs6.cellAt 1 _ rfl
          have c2 := hs6.cellAt 2 _ rfl
          have c3 := hs6.cellAt 3 _ rfl
          have d0 := hy6.cellAt 0 _ rfl
          have d1 := hy6.cellAt 1 _ rfl
          go_wp2_with (refine wp_new 23 rfl rfl zeroO ?_; refine wp_stop ?_)
          have hal7 : Below w6.heap.size w6 (w6.alloc (.cells #[.int .i64 0, .int .i64 0, .int .i64 0, .int .i64 0] 23)) := (Below.refl _ _).alloc (Nat.le_refl _) _
          have ho7 := Blk.new' w6 23 [.int .i64 0, .int .i64 0, .int .i64 0, .int .i64 0]
          have hs7 := hs6.below hal7
          have hz7 := hz6.below hal7
          have hzl := hz6.lt
          have hsl7 := hs6.lt
          have hB7 := hB6.trans (hal7.mono hB6.size)
          clear c0 c1 c2 c3 d0 d1 hs6 hz6 hy6 hal7
          refine wp_go ?_
          go_wp2_with (refine wp_st 23 (.tmp 14) (.tmp 64) rfl rfl rfl (f := 0) rfl (l := [.int .i64 (K : Int), .int .i64 (Y : Int), .int .i64 a, .int .i64 b]) rfl ho7 (by simp) sizeO (by intro v hv; simp at hv; rcases hv with rfl | rfl | rfl | rfl <;> rfl) ?_; intro w8 ho8 hG8; refine wp_stop ?_)
          have ho8 : Blk w8 w6.heap.size 23 [.int .i64 (K : Int), .int .i64 (Y : Int), .int .i64 a, .int .i64 b] := ho8
          have hs8 := hs7.keep (hG8.block _ hs7.lt (by intro h; injection h with h; omega))
          have hz8 := hz7.keep (hG8.block _ hz7.lt (by intro h; injection h with h; omega))
          have hB8 := hB7.grown hG8 hB7.size (by intro k hk; injection hk with hk; have := hB6.size; omega)
          clear ho7 hs7 hz7 hB7 hG8
          obtain ⟨g8, hg8⟩ : ∃ g, g = w6.heap.size := ⟨_, rfl⟩
          rw [← hg8] at ho8 ⊢
          clear hg8 hzl hsl7
          have c0 := hs8.cellAt 0 _ rfl
          have c1 := hs8.cellAt 1 _ rfl
          have d0 := ho8.cellAt 0 _ rfl
          have d1 := ho8.cellAt 1 _ rfl
          have d2 := ho8.cellAt 2 _ rfl
          have d3 := ho8.cellAt 3 _ rfl
          refine wp_go ?_
          go_wp2_with (refine wp_st 26 (.tmp 2) (.tmp 70) rfl rfl rfl (f := 0) rfl (l := [.int .i64 (C : Int), .int .i64 (S : Int), .int .i64 (K : Int), .int .i64 (Y : Int), .int .i64 a, .int .i64 b, .slice none 0 0]) rfl hz8 (by simp [zQ]) sizeQ (by intro v hv; simp at hv; rcases hv with rfl | rfl | rfl | rfl | rfl | rfl | rfl <;> rfl) ?_; intro w9 hd9 hG9; refine wp_stop ?_)
          refine wp_go ?_
          go_wp2
          refine ret_cell1 rfl rfl rfl hd9.whole Try.underlying26 rfl sizeQ rfl ?_
          exact ⟨rfl, hB8.grown hG9 hB8.size (by intro k hk; injection hk with hk; omega)⟩
end Go.Proofs.Ythdkfcbfjhdpoaa
