/- K2: layer 5: contracts of the document's Beside, Sign, Seed. -/
import Derived.Test.YtcbojdbmfjhkiaaDoorK1
import Derived.Test.YtcbojdbmfjhkiaaDoorT5
import Derived.Test.YtcbojdbmfjhkiaaDoorT6
namespace Go.V
open Go.RowKit
def frmF (i : Nat) : Nat := [0, 8, 12, 14].getD i 0
def sizF (i : Nat) : Nat := [8, 4, 2, 1].getD i 0
/-- whoever stands beside the i-th step of the way up from leaf k -/
def besI (k i : Nat) : Nat := if k / 2 ^ i % 2 = 0 then frmF i + k / 2 ^ i + 1 else frmF i + k / 2 ^ i - 1
def besL (k n : Nat) : List Nat := (List.range n).map (besI k)
theorem bes_succ (k n : Nat) : besL k (n + 1) = besL k n ++ [besI k n] := by simp [besL, List.range_succ]
theorem bes_lt (k i : Nat) (hk : k ≤ 7) (hi : i < 3) : besI k i < 15 := by
  obtain rfl | rfl | rfl : i = 0 ∨ i = 1 ∨ i = 2 := by omega
  · simp [besI, frmF]; split <;> omega
  · simp [besI, frmF]; split <;> omega
  · simp [besI, frmF]; split <;> omega
theorem way_next (i : Nat) (hi : i < 3) : frmF i + sizF i = frmF (i + 1) ∧ sizF i / 2 = sizF (i + 1) ∧ frmF i ≤ 14 ∧ sizF i ≤ 8 := by
  obtain rfl | rfl | rfl : i = 0 ∨ i = 1 ∨ i = 2 := by omega
  all_goals decide
theorem half_next (k i : Nat) : k / 2 ^ i / 2 = k / 2 ^ (i + 1) := by rw [Nat.div_div_eq_div_mul, Nat.pow_succ]
theorem half_le (k i : Nat) (hk : k ≤ 7) : k / 2 ^ i ≤ 7 := Nat.le_trans (Nat.div_le_self _ _) hk
end Go.V
namespace Go.Proofs.YtcbojdbmfjhkiaaDoor
open Go.RowKit Go.V
set_option maxRecDepth 100000 in
set_option maxHeartbeats 1000000 in
theorem rbeside_any (k : Nat) (w : World) (hk : k ≤ 7) :
    Calls Tryd.prog 26 #[.int .i64 (k : Int)] w fun e w' => ∃ v', e = .returned v' ∧ w'.ownsRow w.heap.size 3 1 v' 3 (ivs (besL k 3)) ∧ Below w.heap.size w w' := by
  have h0 := World.ownsRow_nil w w.heap.size 3 1
  go_enter Tryd.func26, Tryd.ntmps26
  go_wp2_with (fail)
  go_loopw [3, 4, 5, 6, 7] (fun ov av fv sv iv wr => ∃ i : Nat, i ≤ 3 ∧ av = .int .i64 ((frmF i : Int) + ((k / 2 ^ i : Nat) : Int)) ∧ fv = .int .i64 (frmF i : Int) ∧ sv = .int .i64 (sizF i : Int) ∧ iv = .int .i64 (i : Int) ∧ wr.ownsRow w.heap.size 3 1 ov i (ivs (besL k i)) ∧ Below w.heap.size w wr) (fun _ _ _ _ iv _ => 3 - (intOf iv).toNat)
  case atStart => exact ⟨0, by omega, by simp [frmF], rfl, rfl, rfl, h0, Below.refl _ _⟩
  case round =>
    obtain ⟨i, hi, rfl, rfl, rfl, rfl, ho, hB⟩ := hrel
    have hbs := hB.size
    by_cases hlt : i < 3
    · obtain ⟨n1, n2, n3, n4⟩ := way_next i hlt
      have hh := half_next k i
      have hq := half_le k i hk
      have hbi : besI k i = if k / 2 ^ i % 2 = 0 then frmF i + k / 2 ^ i + 1 else frmF i + k / 2 ^ i - 1 := rfl
      obtain ⟨q, hqq⟩ : ∃ q, q = k / 2 ^ i := ⟨_, rfl⟩
      obtain ⟨f, hf⟩ : ∃ f, f = frmF i := ⟨_, rfl⟩
      obtain ⟨s, hs⟩ : ∃ s, s = sizF i := ⟨_, rfl⟩
      rw [← hqq] at hh hq hbi ⊢
      rw [← hf] at n1 n3 hbi ⊢
      rw [← hs] at n1 n2 n4 ⊢
      have hsub : Hid ((f : Int) + (q : Int) - (f : Int) = (q : Int)) := by show _ = _; omega
      clear hqq hf hs
      have N1 := hid n1
      have N2 := hid n2
      have HH := hid hh
      have HBI := hid hbi
      clear n1 n2 hh hbi
      by_cases hev : q % 2 = 0
      · have hd : (((f : Int) + (q : Int) - (f : Int)) % 2 == 0) = true := by rw [beq_iff_eq]; omega
        have HE := hid hev
        have hu : Hid (ivs (besL k i) ++ [.int .i64 ((f : Int) + (q : Int) + 1)] = ivs (besL k (i + 1))) := by
          show _ = _
          rw [bes_succ, HBI.out, if_pos hev]
          simp only [ivs, List.map_append, List.map_cons, List.map_nil]
          congr 3
        clear hev
        go_wp2_with (with_reducible refine wp_at 23 rfl ?_)
        refine wp_on ?_
        refine wp_push (.tmp 20) (.tmp 22) 23 slI rfl rfl rfl rfl rfl (u := .int .i64 ((f : Int) + (q : Int) + 1)) rfl rfl rfl (by simp) rfl ho (by simp only [maxLen]; omega) (by omega) (by omega) ?_
        intro v3 w3 ho3 hG3 hat3
        rw [hu.out] at ho3
        have hB3 := hB.grown hG3 hbs (fun k hk => (ho.lt k hk).1)
        go_wp2
        go_roundw
        case rel => exact ⟨i + 1, by omega, congrArg (Value.int .i64) (by have := N1.out; have := HH.out; omega), congrArg (Value.int .i64) (by have := N1.out; omega), congrArg (Value.int .i64) (by have := N2.out; omega), by go_num, ho3, hB3⟩
        case measure => simp [intOf]; omega
      · have hd : (((f : Int) + (q : Int) - (f : Int)) % 2 == 0) = false := by rw [beq_eq_false_iff_ne]; omega
        have HE := hid hev
        have hu : Hid (ivs (besL k i) ++ [.int .i64 ((f : Int) + (q : Int) - 1)] = ivs (besL k (i + 1))) := by
          show _ = _
          rw [bes_succ, HBI.out, if_neg hev]
          simp only [ivs, List.map_append, List.map_cons, List.map_nil]
          congr 3
          omega
        clear hev
        go_wp2_with (with_reducible refine wp_at 28 rfl ?_)
        refine wp_on ?_
        refine wp_push (.tmp 25) (.tmp 27) 28 slI rfl rfl rfl rfl rfl (u := .int .i64 ((f : Int) + (q : Int) - 1)) rfl rfl rfl (by simp) rfl ho (by simp only [maxLen]; omega) (by omega) (by omega) ?_
        intro v3 w3 ho3 hG3 hat3
        rw [hu.out] at ho3
        have hB3 := hB.grown hG3 hbs (fun k hk => (ho.lt k hk).1)
        go_wp2
        go_roundw
        case rel => exact ⟨i + 1, by omega, congrArg (Value.int .i64) (by have := N1.out; have := HH.out; omega), congrArg (Value.int .i64) (by have := N1.out; omega), congrArg (Value.int .i64) (by have := N2.out; omega), by go_num, ho3, hB3⟩
        case measure => simp [intOf]; omega
    · have h3 : i = 3 := by omega
      subst h3
      go_wp2
      go_ret
      exact ⟨_, rfl, ho, hB⟩
def ksigF (seed : List UInt8) (k : Nat) (text : List UInt8) : List UInt8 := [UInt8.ofNat k] ++ sigF seed (k : Int) text ++ ((besL k 3).map fun i => (treeF seed 7).getD i []).flatten
def pathT (seed : List UInt8) (k n : Nat) : List (List UInt8) := (besL k n).map fun i => (treeF seed 7).getD i []
theorem path_32 (seed : List UInt8) (k n : Nat) (hk : k ≤ 7) (hn : n ≤ 3) : ∀ x ∈ pathT seed k n, x.length = 32 := by
  intro x hx
  obtain ⟨i, hi, rfl⟩ := List.mem_map.1 hx
  obtain ⟨j, hj, rfl⟩ := List.mem_map.1 hi
  have hj : j < n := by simpa using hj
  have hb := bes_lt k j hk (by omega)
  rw [List.getD_eq_getElem?_getD, List.getElem?_eq_getElem (by rw [tree_len]; omega)]
  exact tree_32 seed 7 _ (List.getElem_mem _)
theorem len_ksig (seed : List UInt8) (k : Nat) (text : List UInt8) (hk : k ≤ 7) : (ksigF seed k text).length = 657 := by
  have h := flat32_len (pathT seed k 3) (path_32 seed k 3 hk (by omega))
  have hl : (pathT seed k 3).length = 3 := by simp [pathT, besL]
  unfold ksigF
  rw [List.length_append, List.length_append, len_sig]
  unfold pathT at h hl
  rw [h, hl]
  rfl
set_option maxRecDepth 100000 in
set_option maxHeartbeats 2000000 in
theorem rksign_any (seed : List UInt8) (k : Nat) (tv : Value) (text : List UInt8) (F : Nat → Prop) (w : World) (hl : seed.length = 32) (hk : k ≤ 7) (ht : Rd w F tv (bys text)) (hn : text.length ≤ 17592186044416) :
    Calls Tryd.prog 13 #[.agg (bvs seed).toArray, .int .i64 (k : Int), tv] w fun e w' => ∃ v', e = .returned v' ∧ NewB w w' v' (ksigF seed k text) := by
  obtain ⟨At, ct, rfl⟩ := ht.shape
  have Hl := hid hl
  clear hl
  have hsd := Blk.new' w 23 (bvs seed)
  have hB := (Below.refl w.heap.size w).alloc (Nat.le_refl _) (.cells (bvs seed).toArray 23)
  have hz0 : (w.alloc (.cells (bvs seed).toArray 23)).heap.size = w.heap.size + 1 := by simp
  have huk : IntKind.u8.wrap (k : Int) = (k : Int) := by rw [u8w]; omega
  have h0 := World.ownsRow_nil (w.alloc (.cells (bvs seed).toArray 23)) (w.heap.size + 1) 5 1
  have hu : Hid (bvs [] ++ [.int .u8 (k : Int)] = bvs [UInt8.ofNat k]) := by
    show _ = _
    simp only [bvs, List.map_nil, List.nil_append, List.map_cons]
    rw [byteV_of (by omega)]
  go_enter Tryd.func13, Tryd.ntmps13
  go_wp2_with (with_reducible refine wp_at 14 rfl ?_)
  refine wp_on ?_
  refine wp_push (.tmp 11) (.tmp 13) 14 slB rfl rfl rfl rfl rfl (u := .int .u8 (k : Int)) rfl rfl rfl (by simp) rfl h0 (by simp [maxLen]) (by omega) (by omega) ?_
  intro v2 w2 ho2 hG2 hat2
  rw [Nat.zero_add] at ho2
  have ho2 : w2.ownsRow (w.heap.size + 1) 5 1 v2 1 (bvs [UInt8.ofNat k]) := by rw [← hu.out]; exact ho2
  have hB2 := hB.grown hG2 hB.size (fun k hk => by cases hk)
  have hs2 : w.heap.size + 1 ≤ w2.heap.size := by have := hG2.size; omega
  have hsd2 := hsd.keep (hG2.block _ hsd.lt (by intro e; cases e))
  go_wp2_with (with_reducible refine wp_at 17 rfl ?_)
  refine wp_on ?_
  refine wp_ld 23 (.tmp 3) rfl rfl rfl hsd2.whole und25 rfl (by rw [len_bvs, Hl.out]; exact size25) ?_
  go_wp2_with (fail)
  refine (rsign_any seed (k : Int) _ text _ _ Hl.out (by omega) (by omega) (ht.below hB2) hn).mono ?_
  rintro e w3 ⟨v3, rfl, hn3⟩
  have hB3 := hB2.trans (hn3.2.mono hB2.size)
  have ho3 := own_keepB ho2 hn3.2
  have hs3 := hn3.rd
  obtain ⟨sg, hsg⟩ : ∃ sg, sg = sigF seed (k : Int) text := ⟨_, rfl⟩
  rw [← hsg] at hs3
  have hgl : Hid (sg.length = 560) := by show _ = _; rw [hsg]; exact len_sig _ _ _
  have Hsg := hid hsg
  clear hsg
  obtain ⟨A3, c3, rfl⟩ := hs3.shape
  have hs3 := hs3.src
  rw [hgl.out] at hs3 ⊢
  have hz3 := hn3.2.size
  have hsd3 := hsd2.below hn3.2
  go_wp2_with (with_reducible refine wp_at 21 rfl ?_)
  refine wp_on ?_
  refine wp_app (.tmp 16) (.tmp 20) slB rfl rfl rfl ho3 rfl hs3 (oneCell_bvs sg) (by simp [maxLen]) (by omega) (by omega) ?_
  intro v4 w4 ho4 hG4 hat4
  rw [show bvs [UInt8.ofNat k] ++ bvs sg = bvs ([UInt8.ofNat k] ++ sg) from by simp [bvs]] at ho4
  have hB4 := hB3.grown hG4 hB3.size (fun k hk => by have := (ho3.lt k hk).1; omega)
  have hz4 := hG4.size
  have hsd4 := hsd3.keep (hG4.block _ hsd3.lt (fun e => by have := (ho3.lt _ e.symm).1; omega))
  go_wp2_with (with_reducible refine wp_at 22 rfl ?_)
  refine wp_on ?_
  refine wp_ld 23 (.tmp 3) rfl rfl rfl hsd4.whole und25 rfl (by rw [len_bvs, Hl.out]; exact size25) ?_
  go_wp2_with (fail)
  refine (rtree_any seed _ Hl.out).mono ?_
  rintro e w5 ⟨v5, rfl, ho5, hB5⟩
  have hB5' := hB4.trans (hB5.mono hB4.size)
  have ho4b := own_keepB ho4 hB5
  have hz5 := hB5.size
  go_wp2_with (fail)
  refine (rbeside_any k _ hk).mono ?_
  rintro e wd ⟨v6, rfl, ho6, hB6⟩
  have hBd := hB5'.trans (hB6.mono hB5'.size)
  have ho4c := own_keepB ho4b hB6
  have ho5c := own_keepB ho5 hB6
  have hz6 := hB6.size
  obtain ⟨gt, ct5, rfl, _, _, _⟩ := ownW_range ho5c (by omega)
  obtain ⟨gb, cb, rfl, _, _, _⟩ := own_ivs ho6 (by omega)
  clear ho5 ho4 ho4b hsd hsd2 hsd3 hsd4 h0 huk
  obtain ⟨pre, hpre⟩ : ∃ pre, pre = [UInt8.ofNat k] ++ sg := ⟨_, rfl⟩
  rw [← hpre] at ho4c
  have Hpre := hid hpre
  clear hpre
  go_wp2_with (fail)
  go_loopw [7, 10] (fun bv iv wr => ∃ i : Nat, i ≤ 3 ∧ iv = .int .i64 i ∧ wr.ownsRow (w.heap.size + 1) 5 1 bv (561 + 32 * i) (bvs (pre ++ (pathT seed k i).flatten)) ∧ wr.ownsRow w4.heap.size 23 32 (.slice (some ⟨gt, 0, none⟩) 15 ct5) 15 (bvs (treeF seed 7).flatten) ∧ wr.ownsRow w5.heap.size 3 1 (.slice (some ⟨gb, 0, none⟩) 3 cb) 3 (ivs (besL k 3)) ∧ w.heap.size + 1 ≤ wr.heap.size ∧ Below w.heap.size w wr) (fun _ iv _ => 3 - (intOf iv).toNat)
  case atStart => exact ⟨0, by omega, rfl, by simpa [pathT, besL] using ho4c, ho5c, ho6, by omega, hBd⟩
  case round =>
    obtain ⟨i, hi, rfl, ho, hot, hob, hsz, hB⟩ := hrel
    obtain ⟨C, hC⟩ : ∃ C, C = pre ++ (pathT seed k i).flatten := ⟨_, rfl⟩
    rw [← hC] at ho
    have HC := hid hC
    clear hC
    by_cases hlt : i < 3
    · have hbl := bes_lt k i hk hlt
      obtain ⟨b, hb⟩ : ∃ b, b = besI k i := ⟨_, rfl⟩
      rw [← hb] at hbl
      have hbi : (besL k 3)[i]? = some b := by rw [hb]; simp [besL, hlt]
      obtain ⟨x, hx⟩ : ∃ x, (treeF seed 7)[b]? = some x := ⟨_, List.getElem?_eq_getElem (by rw [tree_len]; omega)⟩
      have hcell := own_rg hob i _ (ivs_at _ i b hbi)
      rw [Nat.zero_add] at hcell
      have hxr := row32 (own_rg hot) (tree_32 seed 7) b x hx
      have Hxl := hid (tree_32 seed 7 x (List.mem_of_getElem? hx))
      have hps : Hid (bvs C ++ bvs x = bvs (pre ++ (pathT seed k (i + 1)).flatten)) := by
        show _ = _
        rw [HC.out]
        unfold pathT
        rw [bes_succ, ← hb]
        simp [bvs, hx]
      clear hb hbi hx
      go_wp2_with (with_reducible refine wp_at 36 rfl ?_)
      refine wp_on ?_
      refine wp_ixa 26 (.tmp 31) (.tmp 35) rfl rfl rfl (i := b) rfl Tryd.underlying26 hbl size25 ?_
      refine wp_ld 23 (.tmp 36) rfl rfl rfl hxr und25 rfl (by rw [len_bvs, Hxl.out]; exact size25) ?_
      go_wp2_with (fail)
      refine (rbytes_any x _ Hxl.out).mono ?_
      rintro e w7 ⟨v7, rfl, ho7, hB7⟩
      rw [Hxl.out] at ho7
      have hs7 := (Rd.of_own ho7)
      obtain ⟨A7, c7, rfl⟩ := own_shape ho7
      have hs7 : Src w7 A7 32 (bvs x) := by have := hs7.src; rw [Hxl.out] at this; exact this
      have ho' := own_keepB ho hB7
      have hot' := own_keepB hot hB7
      have hob' := own_keepB hob hB7
      have hB7' := hB.trans (hB7.mono hB.size)
      have hz7 := hB7.size
      go_wp2_with (with_reducible refine wp_at 39 rfl ?_)
      refine wp_on ?_
      refine wp_app (.tmp 30) (.tmp 38) slB rfl rfl rfl ho' rfl hs7 (oneCell_bvs x) (by simp only [maxLen]; omega) (by omega) (by omega) ?_
      intro v8 w8 ho8 hG8 hat8
      rw [hps.out] at ho8
      have hB8 := hB7'.grown hG8 hB7'.size (fun k hk => by have := (ho'.lt k hk).1; omega)
      have hot8 := hot'.kept hG8 (row_types ho' hot' (by decide))
      have hob8 := hob'.kept hG8 (row_types ho' hob' (by decide))
      have hz8 := hG8.size
      go_wp2
      go_roundw
      case rel => exact ⟨i + 1, by omega, by go_num, by rw [show 561 + 32 * (i + 1) = 561 + 32 * i + 32 from by omega]; exact ho8, hot8, hob8, by omega, hB8⟩
      case measure => simp [intOf]; omega
    · have h3 : i = 3 := by omega
      subst h3
      have hfin : Hid (ksigF seed k text = C) := by show _ = _; rw [HC.out, Hpre.out, Hsg.out]; rfl
      go_wp2
      go_ret
      refine ⟨_, rfl, ?_, hB⟩
      rw [len_ksig _ _ _ hk, hfin.out]
      exact own_base ho (by omega)
end Go.Proofs.YtcbojdbmfjhkiaaDoor
