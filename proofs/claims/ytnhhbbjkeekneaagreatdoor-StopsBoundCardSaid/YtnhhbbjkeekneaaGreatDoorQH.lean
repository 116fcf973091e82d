/- QH: layer 7: a request's text read of any bytes: contract of readText. -/
import Derived.Test.YtnhhbbjkeekneaaGreatDoorQ7
import Derived.Test.YtnhhbbjkeekneaaGreatDoorQG
namespace Go.Proofs.YtnhhbbjkeekneaaGreatDoor
open Go.RowKit Go.V
theorem fix1_at (X : List UInt8) (i : Nat) : fixRd 1 (X.drop i) = if X.length ≤ i then .error 1 else .ok (X.getD i 0).toNat := by
  unfold fixRd
  rw [if_pos (by unfold okN; omega), List.length_drop]
  by_cases h : X.length ≤ i
  · rw [if_pos h, if_pos (by show X.length - i < 1; omega)]
  · rw [if_neg h, if_neg (by show ¬ X.length - i < 1; omega)]
    have e : X.drop i = X.getD i 0 :: X.drop (i + 1) := by
      rw [List.drop_eq_getElem_cons (by omega)]
      congr 1
      rw [List.getD_eq_getElem?_getD, List.getElem?_eq_getElem (by omega)]
      rfl
    rw [e]
    show Except.ok (fixN [X.getD i 0]) = _
    unfold fixN
    simp
/-- what a reading of a request's text answers -/
def TxQ (w : World) (r : Except Nat Rq) (e : Ending) (w' : World) : Prop := match r with
  | .ok r => e = .returned (.tuple #[.agg (r.l (.slice none 0 0)).toArray, .int .i64 0]) ∧ Below w.heap.size w w'
  | .error er => e = .returned (.tuple #[.agg zQ.toArray, .int .i64 (er : Int)]) ∧ Below w.heap.size w w'
theorem TxQ.err {w w' : World} {r : Except Nat Rq} {er : Nat} (h : r = .error er) (hB : Below w.heap.size w w') : TxQ w r (.returned (.tuple #[.agg zQ.toArray, .int .i64 (er : Int)])) w' := by rw [h]; exact ⟨rfl, hB⟩
theorem bldZQ : ∀ W : World, (Instr.build 126 #[]).run Tryz.prog W = .ok (.agg zQ.toArray) W := fun _ => by kernel_rfl
theorem zQ_one : ∀ v ∈ zQ, v.oneCell' = true := by decide
set_option maxRecDepth 100000 in
set_option maxHeartbeats 4000000 in
theorem rdText7_any (v : Value) (X : List UInt8) (F : Nat → Prop) (w : World) (hv : Rd w F v (bys X)) (hXl : X.length ≤ 1000000) :
    Calls Tryz.prog 139 #[v] w (TxQ w (txtR X)) := by
  have htx := txt_st X
  have hse := fun i e h => st_err (X := X) (i := i) (e := e) h 2
  have hsl := fun i m l h => st_len (X := X) (i := i) (m := m) (l := l) h
  have hf4 := fix1_at X
  obtain ⟨A, cp, rfl⟩ := hv.shape
  obtain ⟨T, hT⟩ : ∃ T, T = txtR X := ⟨_, rfl⟩
  rw [← hT] at htx ⊢
  have Htx := hid htx
  have Hse := hid hse
  have Hsl := hid hsl
  have Hf4 := hid hf4
  clear hT htx hse hsl hf4
  have hbz := bldZQ
  have hB : Below w.heap.size w (w.alloc (.cells #[.int .i64 0, .int .i64 0, .int .i64 0, .int .i64 0, .int .i64 0, .int .i64 0, .slice none 0 0] 126)) := (Below.refl _ _).alloc (Nat.le_refl _) _
  have hz := Blk.new' w 126 zQ
  have hbr := hv.below hB
  go_enter Tryz.func139, Tryz.ntmps139
  go_wp2_with (fail)
  obtain ⟨w0, hw0⟩ : ∃ w0, w0 = w.alloc (.cells #[.int .i64 0, .int .i64 0, .int .i64 0, .int .i64 0, .int .i64 0, .int .i64 0, .slice none 0 0] 126) := ⟨_, rfl⟩
  have hz : Blk w0 w.heap.size 126 zQ := by rw [hw0]; exact hz
  rw [← hw0] at hB hbr ⊢
  clear hw0
  obtain ⟨g0, hg0⟩ : ∃ g, g = w.heap.size := ⟨_, rfl⟩
  rw [← hg0] at hz ⊢
  have hgw : w.heap.size ≤ g0 := by omega
  clear hg0
  refine (new_any _ X F _ hbr (by omega)).mono ?_
  rintro e w1 ⟨p, rfl, hp, hr1, hB1⟩
  have hB1' : Below w.heap.size w w1 := hB.trans (hB1.mono hB.size)
  have hz1 := hz.below hB1
  have hgl := hz.lt
  have hpw : w.heap.size ≤ p := by have := hB.size; omega
  have hpl : p < w1.heap.size := by obtain ⟨_, h, _⟩ := hr1; exact lt_of_block h
  obtain ⟨FF, hFF⟩ : ∃ FF, FF = fun b => w0.heap.size ≤ b ∧ b < p := ⟨_, rfl⟩
  rw [← hFF] at hr1
  have hFp : ∀ b, FF b → b < p ∧ g0 < b := fun b h => by rw [hFF] at h; exact ⟨h.2, by have := h.1; omega⟩
  clear hFF
  have hal2 : Below w1.heap.size w1 (w1.alloc (.cells #[.int .i64 0, .int .i64 0, .int .i64 0, .int .i64 0] 201)) := (Below.refl _ _).alloc (Nat.le_refl _) _
  have hs2 := Blk.new' w1 201 [.int .i64 0, .int .i64 0, .int .i64 0, .int .i64 0]
  have hr2 := hr1.belowR hal2
  have hz2 := hz1.below hal2
  have hB2 := hB1'.trans (hal2.mono hB1'.size)
  clear hz hbr hr1 hz1 hal2
  go_wp2
  obtain ⟨w2, hw2⟩ : ∃ w0, w0 = w1.alloc (.cells #[.int .i64 0, .int .i64 0, .int .i64 0, .int .i64 0] 201) := ⟨_, rfl⟩
  rw [← hw2] at hs2 hr2 hz2 hB2 ⊢
  clear hw2
  obtain ⟨gs, hgs⟩ : ∃ g, g = w1.heap.size := ⟨_, rfl⟩
  rw [← hgs] at hs2 ⊢
  have hps : p < gs := by omega
  clear hgs hpl
  obtain ⟨L, hL⟩ : ∃ L : List Value, L = [.int .i64 ((X.getD 0 0).toNat : Int), .int .i64 ((X.getD 1 0).toNat : Int), .int .i64 ((X.getD 2 0).toNat : Int), .int .i64 ((X.getD 3 0).toNat : Int)] := ⟨_, rfl⟩
  have hLl : L.length = 4 := by rw [hL]; rfl
  have hLa : ∀ i, i < 4 → L[i]? = some (.int .i64 ((X.getD i 0).toNat : Int)) := fun i hi => by
    rw [hL]
    match i, hi with
    | 0, _ => rfl
    | 1, _ => rfl
    | 2, _ => rfl
    | 3, _ => rfl
  have HL := hid hL
  have HLl := hid hLl
  have HLa := hid hLa
  clear hL hLl hLa
  go_loopw [17] (fun iv wr => ∃ i : Nat, i ≤ 4 ∧ i ≤ X.length ∧ iv = .int .i64 i ∧ RdR wr p FF X i ∧ Blk wr gs 201 (L.take i ++ List.replicate (4 - i) (.int .i64 0)) ∧ Blk wr g0 126 zQ ∧ Below w.heap.size w wr) (fun i _ => 4 - (intOf i).toNat)
  case atStart => exact ⟨0, Nat.zero_le _, Nat.zero_le _, rfl, hr2, hs2, hz2, hB2⟩
  case round =>
    obtain ⟨i, hi, hiX, rfl, hr3, hs3, hz3, hB3⟩ := hrel
    by_cases hlt : i < 4
    · have hI : (i : Int) < 4 := by omega
      have f1 := fixed_any p _ X i 1 _ hr3
      rw [Hf4.out] at f1
      by_cases hX2 : X.length ≤ i
      · rw [if_pos hX2] at f1
        have Hf := hid f1
        have Ht : Hid (T = .error 1) := hid (Htx.out.trans (if_pos (by omega)))
        clear f1 hr3 Htx
        go_wp2_with (fail)
        refine Hf.out.mono ?_
        rintro e w4 ⟨rfl, hr4, hC4⟩
        have hz4 := hz3.ch hC4 (by intro h; have h' : g0 = p := h; omega)
        have hB4 := Ch.below_of hB3 hC4 (fun k hk => by have : k = p := hk; omega) hB3.size
        simp only [eF]
        clear hr4 hs3 hz3 hC4
        go_wp2_with (first | refine wp_bld 126 [] rfl rfl [] rfl hbz ?_ | (refine wp_st 126 (.tmp 2) (.tmp 27) rfl rfl rfl (f := 0) rfl (l := zQ) rfl hz4 (by simp [zQ]) sizeQ zQ_one ?_; intro w9 hd9 hG9; refine wp_stop ?_))
        refine wp_go ?_
        go_wp2
        refine ret_cell1 rfl rfl rfl hd9.whole Tryz.underlying126 rfl sizeQ rfl ?_
        exact TxQ.err Ht.out (hB4.grown hG9 hB4.size (by intro k hk; injection hk with hk; omega))
      rw [if_neg hX2] at f1
      obtain ⟨n, hn⟩ : ∃ n, n = (X.getD i 0).toNat := ⟨_, rfl⟩
      have hn256 : n < 256 := by rw [hn]; exact (X.getD i 0).toNat_lt
      have hat := HLa.out i hlt
      rw [← hn] at f1 hat
      have hwn : IntKind.i64.wrap (n : Int) = (n : Int) := IntWalk.i64_in _ (by omega)
      have Hf := hid f1
      have Hat := hid hat
      clear f1 hat hr3 hn
      have Hfl := hid (fill_set L (.int .i64 0) 4 i HLl.out hlt (.int .i64 (n : Int)) Hat.out)
      have Hlen : Hid ((L.take i ++ List.replicate (4 - i) (Value.int .i64 0)).length = 4) := by
        show _ = _
        rw [List.length_append, List.length_take, List.length_replicate, HLl.out]; omega
      go_wp2_with (fail)
      refine Hf.out.mono ?_
      rintro e w4 ⟨rfl, hr4, hC4⟩
      have hs4 := hs3.ch hC4 (by intro h; have h' : gs = p := h; omega)
      have hz4 := hz3.ch hC4 (by intro h; have h' : g0 = p := h; omega)
      have hB4 := Ch.below_of hB3 hC4 (fun k hk => by have : k = p := hk; omega) hB3.size
      simp only [eF]
      go_wp2_with (refine wp_st1 3 (.tmp 32) (.tmp 31) rfl rfl rfl (f := i) rfl (v := .int .i64 (n : Int)) rfl hs4 (by rw [Hlen.out]; omega) sizeI7 rfl rfl ?_; intro w5 hs5 hG5; rw [Hfl.out] at hs5)
      go_roundw
      case rel => 
        refine ⟨i + 1, by omega, by omega, by go_num, ?_, hs5, hz4.keep (hG5.block _ hz4.lt (by intro h; injection h with h; omega)), hB4.grown hG5 hB4.size (by intro k hk; injection hk with hk; omega)⟩
        obtain ⟨_, hpb, _⟩ := id hr4
        refine RdR.keep (k := i + 1) hr4 (hG5.block _ (lt_of_block hpb) (by intro h; injection h with h; omega)) (fun b hb hF => hG5.block _ hb (by intro h; injection h with h; have := hFp b hF; omega))
      case measure => simp [intOf]; omega
    · have h4' : i = 4 := by omega
      subst h4'
      have hI : ¬ (4 : Int) < 4 := by omega
      have hs3 : Blk wr gs 201 L := by
        rw [← List.append_nil L, ← show L.take 4 = L from List.take_of_length_le (by rw [HLl.out]; omega)]
        exact hs3
      rw [HL.out] at hs3
      have Htx2 := hid (Htx.out.trans (if_neg (by omega)))
      obtain ⟨C, hC⟩ : ∃ C, C = (X.getD 0 0).toNat := ⟨_, rfl⟩
      obtain ⟨S, hS⟩ : ∃ C, C = (X.getD 1 0).toNat := ⟨_, rfl⟩
      obtain ⟨K, hK⟩ : ∃ C, C = (X.getD 2 0).toNat := ⟨_, rfl⟩
      obtain ⟨Y, hY⟩ : ∃ C, C = (X.getD 3 0).toNat := ⟨_, rfl⟩
      rw [← hC, ← hS, ← hK, ← hY] at hs3
      have Hrq : Hid (∀ a b, rqX X a b = ⟨(C : Int), (S : Int), (K : Int), (Y : Int), a, b, []⟩) := hid (fun a b => by rw [hC, hS, hK, hY]; rfl)
      clear HL HLl HLa hC hS hK hY Htx
      have hal4 : Below wr.heap.size wr (wr.alloc (.cells #[.int .i64 0, .int .i64 0] 212)) := (Below.refl _ _).alloc (Nat.le_refl _) _
      have hy4 := Blk.new' wr 212 [.int .i64 0, .int .i64 0]
      have hr4 := hr3.belowR hal4
      have hz4 := hz3.below hal4
      have hs4 := hs3.below hal4
      have hsl := hs3.lt
      have hB4 := hB3.trans (hal4.mono hB3.size)
      clear hr3 hz3 hs3 hal4 hs2 hr2 hz2
      go_wp2
      obtain ⟨w4, hw4⟩ : ∃ w0, w0 = wr.alloc (.cells #[.int .i64 0, .int .i64 0] 212) := ⟨_, rfl⟩
      rw [← hw4] at hs4 hr4 hz4 hB4 hy4 ⊢
      clear hw4
      obtain ⟨gy, hgy⟩ : ∃ g, g = wr.heap.size := ⟨_, rfl⟩
      rw [← hgy] at hy4 ⊢
      have hsy : gs < gy := by omega
      clear hgy
      go_loopw [34] (fun iv wr => ∃ (i m : Nat) (l : List Int), i ≤ 2 ∧ iv = .int .i64 i ∧ RdR wr p FF X m ∧ Hid (stR X i = .ok (m, l)) ∧ Blk wr gy 212 (l.map (fun (x : Int) => Value.int .i64 x)) ∧ Blk wr gs 201 [.int .i64 (C : Int), .int .i64 (S : Int), .int .i64 (K : Int), .int .i64 (Y : Int)] ∧ Blk wr g0 126 zQ ∧ Below w.heap.size w wr) (fun i _ => 2 - (intOf i).toNat)
      case atStart => exact ⟨0, 4, [0, 0], Nat.zero_le _, rfl, hr4, rfl, hy4, hs4, hz4, hB4⟩
      case round =>
        clear hr4 hy4 hs4 hz4 hB4
        obtain ⟨i, m, l, hi2, rfl, hr5, hst, hy5, hs5, hz5, hB5⟩ := hrel
        have hll := Hsl.out i m l hst.out
        by_cases hlt : i < 2
        · have hI2 : (i : Int) < 2 := by omega
          have f1 := folded_any p _ X m _ hr5
          cases hq : readPk (X.drop m) with
          | error e =>
            have hep := rdF_err _ _ _ _ hq
            have hne : ((e : Int) != 0) = true := by rw [bne_iff_ne]; omega
            have h2 : stR X 2 = .error e := Hse.out (i + 1) e (by rw [stR, hst.out]; show (match readPk (X.drop m) with | .error e => Except.error e | .ok (c, z) => .ok (m + z, l.set i (unfoldZ c))) = _; rw [hq]) (by omega)
            have Ht : Hid (T = .error e) := hid (by rw [Htx2.out, h2])
            rw [hq] at f1
            have Hf := hid f1
            clear f1 hr5 hq h2 Htx2
            go_wp2_with (fail)
            refine Hf.out.mono ?_
            rintro e' w6 ⟨rfl, hr6, hC6⟩
            have hz6 := hz5.ch hC6 (by intro h; have h' : g0 = p := h; omega)
            have hB6 := Ch.below_of hB5 hC6 (fun k hk => by have : k = p := hk; omega) hB5.size
            simp only [e2]
            clear hr6 hC6 hz5 hs5 hy5
            go_wp2_with (first | refine wp_bld 126 [] rfl rfl [] rfl hbz ?_ | (refine wp_st 126 (.tmp 2) (.tmp 44) rfl rfl rfl (f := 0) rfl (l := zQ) rfl hz6 (by simp [zQ]) sizeQ zQ_one ?_; intro w9 hd9 hG9; refine wp_stop ?_))
            refine wp_go ?_
            go_wp2
            refine ret_cell1 rfl rfl rfl hd9.whole Tryz.underlying126 rfl sizeQ rfl ?_
            exact TxQ.err Ht.out (hB6.grown hG9 hB6.size (by intro k hk; injection hk with hk; omega))
          | ok r =>
            obtain ⟨c, z⟩ := r
            have hnx : stR X (i + 1) = .ok (m + z, l.set i (unfoldZ c)) := by rw [stR, hst.out]; show (match readPk (X.drop m) with | .error e => Except.error e | .ok (c, z) => .ok (m + z, l.set i (unfoldZ c))) = _; rw [hq]
            have Hnx := hid hnx
            rw [hq] at f1
            obtain ⟨x, hx⟩ : ∃ x, x = unfoldZ c := ⟨_, rfl⟩
            have hset : (l.map (fun (x : Int) => Value.int .i64 x)).set i (.int .i64 x) = (l.set i x).map (fun (x : Int) => Value.int .i64 x) := by rw [List.map_set]
            have Hset := hid hset
            have Hx := hid hx
            have hlm : (l.map (fun (x : Int) => Value.int .i64 x)).length = 2 := by rw [List.length_map]; exact hll
            obtain ⟨lm, elm⟩ : ∃ y, y = l.map (fun (x : Int) => Value.int .i64 x) := ⟨_, rfl⟩
            rw [← elm] at hy5 Hset hlm
            have Hlm := hid hlm
            have Hf := hid f1
            clear f1 hr5 hq hnx hset hx elm hlm hst
            go_wp2_with (fail)
            refine Hf.out.mono ?_
            rintro e w6 ⟨rfl, hr6, hC6⟩
            have hs6 := hs5.ch hC6 (by intro h; have h' : gs = p := h; omega)
            have hz6 := hz5.ch hC6 (by intro h; have h' : g0 = p := h; omega)
            have hy6 := hy5.ch hC6 (by intro h; have h' : gy = p := h; omega)
            have hB6 := Ch.below_of hB5 hC6 (fun k hk => by have : k = p := hk; omega) hB5.size
            simp only [e2, lenP] at hr6 ⊢
            rw [← Hx.out]
            go_wp2_with (refine wp_st1 2 (.tmp 48) (.tmp 47) rfl rfl rfl (f := i) rfl (v := .int .i64 x) rfl hy6 (by rw [Hlm.out]; omega) sizeL7 rfl rfl ?_; intro w7 hy7 hG7; rw [Hset.out] at hy7)
            go_roundw
            case rel =>
              refine ⟨i + 1, m + z, _, by omega, by go_num, ?_, by rw [Hx.out]; exact Hnx, hy7, hs6.keep (hG7.block _ hs6.lt (by intro h; injection h with h; omega)), hz6.keep (hG7.block _ hz6.lt (by intro h; injection h with h; omega)), hB6.grown hG7 hB6.size (by intro k hk; injection hk with hk; omega)⟩
              obtain ⟨_, hpb, _⟩ := id hr6
              refine RdR.keep hr6 (hG7.block _ (lt_of_block hpb) (by intro h; injection h with h; omega)) (fun b hb hF => hG7.block _ hb (by intro h; injection h with h; have := hFp b hF; omega))
            case measure => simp [intOf]; omega
        · have hi2' : i = 2 := by omega
          subst hi2'
          have hI2 : ¬ (2 : Int) < 2 := by omega
          have hT2 : T = if m < X.length then .error 2 else .ok (rqX X (l.getD 0 0) (l.getD 1 0)) := by rw [Htx2.out, hst.out]
          obtain ⟨a, b, rfl⟩ : ∃ a b : Int, l = [a, b] := by
            match l, hll with
            | [a, b], _ => exact ⟨a, b, rfl⟩
          have HT2 := hid hT2
          have f1 := done_any p _ X _ _ hr5
          clear Htx2 hst hT2
          by_cases hlo : m < X.length
          · rw [if_pos hlo] at f1
            have Ht : Hid (T = .error 2) := hid (HT2.out.trans (if_pos hlo))
            have Hf := hid f1
            clear f1 hr5 HT2
            go_wp2_with (fail)
            refine Hf.out.mono ?_
            rintro e w6 ⟨rfl, nn, rfl⟩
            have hz6 := hz5.drewN nn
            have hB6 := Go.below_drewN hB5 nn
            obtain ⟨w6, hw6⟩ : ∃ x, x = wr.drewN nn := ⟨_, rfl⟩
            rw [← hw6] at hz6 hB6 ⊢
            clear hw6 hs5 hz5 hy5 hB5
            go_wp2_with (first | refine wp_bld 126 [] rfl rfl [] rfl hbz ?_ | (refine wp_st 126 (.tmp 2) (.tmp 54) rfl rfl rfl (f := 0) rfl (l := zQ) rfl hz6 (by simp [zQ]) sizeQ zQ_one ?_; intro w9 hd9 hG9; refine wp_stop ?_))
            refine wp_go ?_
            go_wp2
            refine ret_cell1 rfl rfl rfl hd9.whole Tryz.underlying126 rfl sizeQ rfl ?_
            exact TxQ.err Ht.out (hB6.grown hG9 hB6.size (by intro k hk; injection hk with hk; omega))
          rw [if_neg hlo] at f1
          have Ht : Hid (T = .ok ⟨(C : Int), (S : Int), (K : Int), (Y : Int), a, b, []⟩) := hid ((HT2.out.trans (if_neg hlo)).trans (by rw [Hrq.out]; rfl))
          have hy5 : Blk wr gy 212 [.int .i64 a, .int .i64 b] := hy5
          clear HT2 Hrq
          have Hf := hid f1
          clear f1 hr5
          go_wp2_with (fail)
          refine Hf.out.mono ?_
          rintro e w6 ⟨rfl, nn, rfl⟩
          have hs6 := hs5.drewN nn
          have hz6 := hz5.drewN nn
          have hy6 := hy5.drewN nn
          have hB6 := Go.below_drewN hB5 nn
          obtain ⟨w6, hw6⟩ : ∃ x, x = wr.drewN nn := ⟨_, rfl⟩
          rw [← hw6] at hs6 hz6 hy6 hB6 ⊢
          clear hw6 hs5 hz5 hy5 hB5
          have c0 := hs6.cellAt 0 _ rfl
          have c1 := hs6.cellAt 1 _ rfl
          have c2 := hs6.cellAt 2 _ rfl
          have c3 := hs6.cellAt 3 _ rfl
          have d0 := hy6.cellAt 0 _ rfl
          have d1 := hy6.cellAt 1 _ rfl
          go_wp2_with (refine wp_new 124 rfl rfl zeroO ?_; refine wp_stop ?_)
          have hal7 : Below w6.heap.size w6 (w6.alloc (.cells #[.int .i64 0, .int .i64 0, .int .i64 0, .int .i64 0] 124)) := (Below.refl _ _).alloc (Nat.le_refl _) _
          have ho7 := Blk.new' w6 124 [.int .i64 0, .int .i64 0, .int .i64 0, .int .i64 0]
          have hs7 := hs6.below hal7
          have hz7 := hz6.below hal7
          have hzl := hz6.lt
          have hsl7 := hs6.lt
          have hB7 := hB6.trans (hal7.mono hB6.size)
          clear c0 c1 c2 c3 d0 d1 hs6 hz6 hy6 hal7
          refine wp_go ?_
          go_wp2_with (refine wp_st 124 (.tmp 14) (.tmp 64) rfl rfl rfl (f := 0) rfl (l := [.int .i64 (K : Int), .int .i64 (Y : Int), .int .i64 a, .int .i64 b]) rfl ho7 (by simp) sizeO (by intro v hv; simp at hv; rcases hv with rfl | rfl | rfl | rfl <;> rfl) ?_; intro w8 ho8 hG8; refine wp_stop ?_)
          have ho8 : Blk w8 w6.heap.size 124 [.int .i64 (K : Int), .int .i64 (Y : Int), .int .i64 a, .int .i64 b] := ho8
          have hs8 := hs7.keep (hG8.block _ hs7.lt (by intro h; injection h with h; omega))
          have hz8 := hz7.keep (hG8.block _ hz7.lt (by intro h; injection h with h; omega))
          have hB8 := hB7.grown hG8 hB7.size (by intro k hk; injection hk with hk; have := hB6.size; omega)
          clear ho7 hs7 hz7 hB7 hG8
          obtain ⟨g8, hg8⟩ : ∃ g, g = w6.heap.size := ⟨_, rfl⟩
          rw [← hg8] at ho8 ⊢
          clear hg8 hzl hsl7
          have c0 := hs8.cellAt 0 _ rfl
          have c1 := hs8.cellAt 1 _ rfl
          have d0 := ho8.cellAt 0 _ rfl
          have d1 := ho8.cellAt 1 _ rfl
          have d2 := ho8.cellAt 2 _ rfl
          have d3 := ho8.cellAt 3 _ rfl
          refine wp_go ?_
          go_wp2_with (refine wp_st 126 (.tmp 2) (.tmp 70) rfl rfl rfl (f := 0) rfl (l := [.int .i64 (C : Int), .int .i64 (S : Int), .int .i64 (K : Int), .int .i64 (Y : Int), .int .i64 a, .int .i64 b, .slice none 0 0]) rfl hz8 (by simp [zQ]) sizeQ (by intro v hv; simp at hv; rcases hv with rfl | rfl | rfl | rfl | rfl | rfl | rfl <;> rfl) ?_; intro w9 hd9 hG9; refine wp_stop ?_)
          refine wp_go ?_
          go_wp2
          refine ret_cell1 rfl rfl rfl hd9.whole Tryz.underlying126 rfl sizeQ rfl ?_
          rw [Ht.out]
          exact ⟨rfl, hB8.grown hG9 hB8.size (by intro k hk; injection hk with hk; omega)⟩
end Go.Proofs.YtnhhbbjkeekneaaGreatDoor
