/- UD: layer 14: contracts of kv over the landed code: value, isKey, settled, done. -/
import Derived.Test.YtfjgfaccfjdklaaU2
namespace Go.V
open Go.RowKit
def stC (x : Cl) : Cl := if x.t = true then x else zC
def stF (c : List Cl) : List Cl := c.map stC
def stD (c : List Cl) (i : Nat) : List Cl := (stF c).take i ++ c.drop i
theorem nm_st (c : List Cl) : nmF (stF c) = nmF c := by
  unfold nmF stF
  rw [List.map_map]
  apply List.map_congr_left
  intro x _
  show nmC (stC x) = nmC x
  obtain ⟨t, n⟩ := x
  cases t <;> rfl
theorem st_in {c : List Cl} (h : ClIn c) : ClIn (stF c) := by
  refine ⟨by unfold stF; rw [List.length_map]; exact h.len, fun y hy => ?_⟩
  unfold stF at hy
  obtain ⟨x, hx, rfl⟩ := List.mem_map.1 hy
  unfold stC
  split
  · exact h.n x hx
  · exact ⟨by show (-9223372036854775808 : Int) ≤ 0; omega, by show (0 : Int) ≤ _; omega⟩
theorem st_zero {c : List Cl} {x : Cl} (h : x ∈ stF c) : x.t = false → x.n = 0 := by
  unfold stF at h
  obtain ⟨y, _, rfl⟩ := List.mem_map.1 h
  unfold stC
  split
  · intro h'; simp_all
  · intro _; rfl
theorem st_next (c : List Cl) (i : Nat) (x : Cl) (hx : c[i]? = some x) : stD c (i + 1) = (stD c i).set i (stC x) := by
  have hi : i < c.length := by
    rcases Nat.lt_or_ge i c.length with h | h
    · exact h
    · rw [List.getElem?_eq_none h] at hx; cases hx
  have hd : c.drop i = x :: c.drop (i + 1) := by
    rw [List.drop_eq_getElem_cons hi]
    rw [List.getElem?_eq_getElem hi] at hx
    injection hx with hx
    rw [hx]
  have hs : (stF c)[i]? = some (stC x) := by unfold stF; rw [List.getElem?_map, hx]; rfl
  have hl : ((stF c).take i).length = i := by unfold stF; rw [List.length_take, List.length_map]; omega
  unfold stD
  rw [List.take_add_one, hs, hd, List.set_append_right i (stC x) (by omega), hl, Nat.sub_self]
  simp
theorem st_same (c : List Cl) (i : Nat) (x : Cl) (hx : c[i]? = some x) (ht : x.t = true) : stD c (i + 1) = stD c i := by
  rw [st_next c i x hx]
  have hi : i < c.length := by
    rcases Nat.lt_or_ge i c.length with h | h
    · exact h
    · rw [List.getElem?_eq_none h] at hx; cases hx
  have hl : ((stF c).take i).length = i := by unfold stF; rw [List.length_take, List.length_map]; omega
  have hg : (stD c i)[i]? = some x := by
    unfold stD
    rw [List.getElem?_append_right (by omega), hl, Nat.sub_self, List.getElem?_drop, Nat.add_zero]
    exact hx
  have hc : stC x = x := by unfold stC; rw [if_pos ht]
  rw [hc]
  apply List.ext_getElem?
  intro j
  rw [List.getElem?_set]
  split
  · rename_i h; subst h; split
    · exact hg.symm
    · rename_i h; rw [List.getElem?_eq_none (by omega)]
  · rfl
theorem len_st (c : List Cl) (i : Nat) : (stD c i).length = c.length := by
  unfold stD stF
  rw [List.length_append, List.length_take, List.length_map, List.length_drop]
  omega
theorem st_end {c : List Cl} (h : c.length = 16) : stD c 16 = stF c := by
  unfold stD
  rw [List.take_of_length_le (by unfold stF; rw [List.length_map]; omega), List.drop_of_length_le (by omega), List.append_nil]
theorem cvs_cut : ∀ (c : List Cl) (i : Nat) (x : Cl), c[i]? = some x → ((cvs c).drop (i * 2)).take 2 = x.l
  | [], i, x, h => by simp at h
  | y :: c, 0, x, h => by simp at h; subst h; rfl
  | y :: c, i + 1, x, h => by
    have h : c[i]? = some x := by simpa using h
    have := cvs_cut c i x h
    rw [show (i + 1) * 2 = i * 2 + 2 by omega]
    exact this
theorem one_cl (x : Cl) : ∀ v ∈ x.l, v.oneCell' = true := by
  intro v hv
  simp only [Cl.l, List.mem_cons, List.not_mem_nil, or_false] at hv
  rcases hv with rfl | rfl <;> rfl
/-- a key's cell behind an op, and what it came to, where a cell without a value has the number 0 -/
def dnC (x : Cl) (o : Ok) : Cl × (Bool × Int) :=
  if o.k = 1 then (x, (x.t, x.n)) else if o.k = 2 then (⟨true, o.a⟩, (true, x.n)) else if o.k = 3 then (⟨true, w64 (x.n + o.a)⟩, (true, w64 (x.n + o.a)))
  else if o.k = 4 then (if x.t = true ∧ x.n = o.a then (⟨true, o.b⟩, (true, o.b)) else (x, (false, x.n))) else if o.k = 5 then (zC, (x.t, x.n)) else (x, (false, 0))
theorem dn_good (x : Cl) (o : Ok) (hx : x.t = false → x.n = 0) (hg : goodK o) : nmC (dnC x o).1 = newK o (nmC x) ∧ (dnC x o).2 = resK o (nmC x) := by
  obtain ⟨t, n⟩ := x
  obtain ⟨k, y, a, b⟩ := o
  obtain ⟨_, h1, h2⟩ := hg
  have h1 : 1 ≤ k := h1
  have h2 : k ≤ 5 := h2
  have hk : k = 1 ∨ k = 2 ∨ k = 3 ∨ k = 4 ∨ k = 5 := by omega
  cases t with
  | false =>
    have hn : n = 0 := hx rfl
    subst hn
    rcases hk with rfl | rfl | rfl | rfl | rfl <;> exact ⟨rfl, rfl⟩
  | true =>
    rcases hk with rfl | rfl | rfl | rfl | rfl
    · exact ⟨rfl, rfl⟩
    · exact ⟨rfl, rfl⟩
    · exact ⟨rfl, rfl⟩
    · by_cases h : n = a
      · subst h
        have e1 : dnC ⟨true, n⟩ ⟨4, y, n, b⟩ = (⟨true, b⟩, (true, b)) := by simp [dnC]
        have e2 : newK ⟨4, y, n, b⟩ (some n) = some b := by simp [newK]
        have e3 : resK ⟨4, y, n, b⟩ (some n) = (true, b) := by simp [resK]
        rw [e1]
        exact ⟨e2.symm, e3.symm⟩
      · have e1 : dnC ⟨true, n⟩ ⟨4, y, a, b⟩ = (⟨true, n⟩, (false, n)) := by simp [dnC, h]
        have hne : ¬ (some n = some a) := fun h' => h (by injection h')
        have e2 : newK ⟨4, y, a, b⟩ (some n) = some n := by simp [newK, h]
        have e3 : resK ⟨4, y, a, b⟩ (some n) = (false, n) := by simp [resK, h]
        rw [e1]
        exact ⟨e2.symm, e3.symm⟩
    · exact ⟨rfl, rfl⟩
theorem dn_bad (x : Cl) (o : Ok) (h : ¬ (1 ≤ o.k ∧ o.k ≤ 5)) : dnC x o = (x, (false, 0)) := by
  unfold dnC
  rw [if_neg (by omega), if_neg (by omega), if_neg (by omega), if_neg (by omega), if_neg (by omega)]
theorem dn_in {x : Cl} {o : Ok} (hx : i64s x.n) (ho : OkIn o) : i64s (dnC x o).1.n := by
  unfold dnC
  split
  · exact hx
  · split
    · exact ho.a
    · split
      · exact w64_in _
      · split
        · split
          · exact ho.b
          · exact hx
        · split
          · exact ⟨by show (-9223372036854775808 : Int) ≤ 0; omega, by show (0 : Int) ≤ _; omega⟩
          · exact hx
end Go.V
namespace Go.Proofs.Ytfjgfaccfjdklaa
open Go.RowKit Go.V
theorem zeroCl : (Try.prog.info? 30).map (·.zero) = some (some (.agg zC.l.toArray)) := by kernel_rfl
theorem aggCl : ∀ W : World, (isAgg 30).run Try.prog W = .ok true W := fun W => by kernel_rfl
theorem bldRv (t : Bool) (n : Int) : ∀ W : World, (Instr.build 33 #[(0, .bool t), (1, .int .i64 n)]).run Try.prog W = .ok (.agg (rvs (t, n)).toArray) W := fun _ => by kernel_rfl
theorem bldRn (n : Int) : ∀ W : World, (Instr.build 33 #[(1, .int .i64 n)]).run Try.prog W = .ok (.agg (rvs (false, n)).toArray) W := fun _ => by kernel_rfl
set_option maxRecDepth 100000 in
theorem value14_any (n : Int) (w : World) :
    Calls Try.prog 20 #[.int .i64 n] w fun e w' => e = .returned (.agg (Cl.l ⟨true, n⟩).toArray) ∧ Below w.heap.size w w' := by
  have b2 := Blk.new' w 30 zC.l
  have hB : Below w.heap.size w (w.alloc (.cells zC.l.toArray 30)) := (Below.refl _ _).alloc (Nat.le_refl _) _
  obtain ⟨w0, hw0⟩ : ∃ x, x = w.alloc (.cells zC.l.toArray 30) := ⟨_, rfl⟩
  rw [← hw0] at b2 hB
  go_enter Try.func20, Try.ntmps20
  go_wp2_with (first | (refine wp_new 30 rfl rfl zeroCl ?_; refine wp_stop ?_))
  rw [← hw0]
  clear hw0
  obtain ⟨g2, hg2⟩ : ∃ g, g = w.heap.size := ⟨_, rfl⟩
  have hw2 : w.heap.size ≤ g2 := by omega
  rw [← hg2] at b2 ⊢
  clear hg2
  refine wp_go ?_
  go_wp2_with (first | refine wp_bld 30 [(0, .const (.bool true)), (1, .tmp 3)] rfl rfl [(0, .bool true), (1, .int .i64 n)] rfl (bldCl n) ?_ | (refine wp_st 30 (.tmp 2) (.tmp 4) rfl rfl rfl (f := 0) rfl (l := Cl.l ⟨true, n⟩) rfl b2 (by show 0 + 2 ≤ 2; omega) sizeCl (one_cl _) ?_; intro x1 k2 G2))
  have k2 := blk_all k2 (by show 2 ≤ 2; omega)
  refine ret_cell rfl rfl k2.whole Try.underlying30 rfl sizeCl rfl ?_
  exact ⟨rfl, hB.grown G2 hB.size (by intro k hk; injection hk with hk; omega)⟩
theorem isKey14_any (y : Int) (w : World) :
    Calls Try.prog 17 #[.int .i64 y] w fun e w' => e = .returned (.bool (decide (0 ≤ y ∧ y ≤ 15))) ∧ Below w.heap.size w w' := by
  by_cases h1 : y < 0
  · have hd : Hid (decide (0 ≤ y ∧ y ≤ 15) = false) := decide_eq_false (by omega)
    have hge : ¬ (0 : Int) ≤ y := by omega
    rw [hd.out]
    go_enter Try.func17, Try.ntmps17
    go_wp2
    go_ret
    exact ⟨rfl, Below.refl _ _⟩
  · have hge : (0 : Int) ≤ y := by omega
    have hd : Hid (decide (0 ≤ y ∧ y ≤ 15) = decide (y < 16)) := decide_eq_decide.2 (by omega)
    rw [hd.out]
    go_enter Try.func17, Try.ntmps17
    go_wp2
    go_ret
    exact ⟨rfl, Below.refl _ _⟩
set_option maxRecDepth 100000 in
set_option maxHeartbeats 4000000 in
theorem settled14_any (c : List Cl) (w : World) (hc : ClIn c) :
    Calls Try.prog 16 #[.agg (cvs c).toArray] w fun e w' => e = .returned (.agg (cvs (stF c)).toArray) ∧ Below w.heap.size w w' := by
  have hcl := hc.len
  have Lc := hid (show (cvs c).length = 32 by rw [len_cvs, hcl])
  have Ls := hid (fun i => show (cvs (stD c i)).length = 32 by rw [len_cvs, len_st, hcl])
  have Lsd := hid (fun i => show (stD c i).length = 16 by rw [len_st, hcl])
  obtain ⟨W, hW, b1, b2, hB⟩ := alloc2 w 31 31 (cvs c) zCs
  have hcut := hid (cvs_cut c)
  have hst := hid (st_next c)
  have hsm := hid (st_same c)
  have hend := hid (st_end hcl)
  have b1 : Blk W w.heap.size 31 (cvs (stD c 0)) := b1
  obtain ⟨cc, hcc⟩ : ∃ cc, cc = cvs c := ⟨_, rfl⟩
  rw [← hcc] at hW Lc hcut ⊢
  have b1' : Blk W w.heap.size 31 cc := by rw [hcc]; exact b1
  clear hcc
  go_enter Try.func16, Try.ntmps16
  go_wp2_with (first | (refine wp_new 31 rfl rfl zeroCs ?_; refine wp_stop ?_))
  rw [← hW]
  clear hW
  obtain ⟨g2, hg2⟩ : ∃ g, g = w.heap.size + 1 := ⟨_, rfl⟩
  obtain ⟨g1, hg1⟩ : ∃ g, g = w.heap.size := ⟨_, rfl⟩
  rw [← hg2] at b2 ⊢
  rw [← hg1] at b1 b1' ⊢
  have hw1 : w.heap.size ≤ g1 := by omega
  have h12 : g1 < g2 := by omega
  clear hg1 hg2
  refine wp_go ?_
  go_wp2_with (refine wp_ld 31 (.tmp 1) rfl rfl rfl b1'.whole Try.underlying31 rfl (by rw [Lc.out]; exact sizeCs) ?_)
  have H1 := hid b1
  have H2 := hid b2
  clear b1 b1' b2
  go_loopw [6] (fun iv wr => ∃ i : Nat, i ≤ 16 ∧ iv = .int .i64 i ∧ Blk wr g1 31 (cvs (stD c i)) ∧ Blk wr g2 31 zCs ∧ Below w.heap.size w wr) (fun i _ => 16 - (intOf i).toNat)
  case atStart => exact ⟨0, Nat.zero_le _, rfl, H1.out, H2.out, hB⟩
  case round =>
    clear H1 H2 hB
    obtain ⟨i, hi, rfl, b1, b2, hB⟩ := hrel
    by_cases hlt : i < 16
    · have hI : (i : Int) < 16 := by omega
      obtain ⟨x, hx⟩ : ∃ x, c[i]? = some x := ⟨_, List.getElem?_eq_getElem (by omega)⟩
      have hk := hid (hcut.out i x hx)
      have hsn := hst.out i x hx
      have hss := hsm.out i x hx
      have z2 : (0 + i * 2) = i * 2 := Nat.zero_add _
      obtain ⟨t, n⟩ := x
      have hgl2 := b2.lt
      have b4 := Blk.new' wr 30 zC.l
      have hBa : Below wr.heap.size wr (wr.alloc (.cells zC.l.toArray 30)) := (Below.refl _ _).alloc (Nat.le_refl _) _
      have b1 := b1.below hBa
      have b2 := b2.below hBa
      have hBw := hB.trans (hBa.mono hB.size)
      have hsz := hB.size
      obtain ⟨w4, hw4⟩ : ∃ x, x = wr.alloc (.cells zC.l.toArray 30) := ⟨_, rfl⟩
      rw [← hw4] at b4 b1 b2 hBw
      clear hx hBa
      go_wp2_with (first | refine wp_idxW 31 (.tmp 5) (.tmp 6) rfl rfl (l := cc) rfl rfl Try.underlying31 hlt aggCl sizeCl ?_; rw [hk.out] | (refine wp_new 30 rfl rfl zeroCl ?_; refine wp_stop ?_))
      rw [← hw4]
      clear hw4
      obtain ⟨g4, hg4⟩ : ∃ g, g = wr.heap.size := ⟨_, rfl⟩
      rw [← hg4] at b4 hgl2 ⊢
      have hgw : w.heap.size ≤ g4 := by omega
      clear hg4 hsz hB
      refine wp_go ?_
      go_wp2_with (first | (refine wp_st 30 (.tmp 4) (.tmp 9) rfl rfl rfl (f := 0) rfl (l := Cl.l ⟨t, n⟩) rfl b4 (by show 0 + 2 ≤ 2; omega) sizeCl (one_cl _) ?_; intro w5 k5 G5; refine wp_stop ?_))
      have k5 := blk_all k5 (by show 2 ≤ 2; omega)
      have b1 := b1.keep (G5.block _ b1.lt (by intro e; injection e with e; omega))
      have b2 := b2.keep (G5.block _ b2.lt (by intro e; injection e with e; omega))
      have hB := hBw.grown G5 hBw.size (by intro k hk; injection hk with hk; omega)
      have d0 := k5.cellAt 0 _ rfl
      clear G5 b4 hBw k5
      refine wp_go ?_
      cases t with
      | true =>
        have hss := hid (hss rfl)
        clear hsn
        go_wp2
        go_roundw
        case rel => exact ⟨i + 1, by omega, by go_num, by rw [hss.out]; exact b1, b2, hB⟩
        case measure => simp [intOf]; omega
      | false =>
        have hsn : Hid (stD c (i + 1) = (stD c i).set i zC) := hsn
        have hLD := Lsd.out i
        clear hss
        have hLS := Ls.out i
        go_wp2_with (first | refine wp_bld 30 [] rfl rfl [] rfl bldCz ?_ | refine wp_ixp 31 (.tmp 1) (.tmp 13) rfl rfl rfl rfl Try.underlying31 hlt sizeCl ?_ | (refine wp_st 30 (.tmp 15) (.tmp 14) rfl rfl rfl (f := 0 + i * 2) rfl (l := zC.l) rfl b1 (by rw [hLS]; show 0 + i * 2 + 2 ≤ 32; omega) sizeCl (one_cl _) ?_; intro w6 k6 G6; refine wp_stop ?_))
        have b2 := b2.keep (G6.block _ b2.lt (by intro e; injection e with e; omega))
        have hB := hB.grown G6 hB.size (by intro k hk; injection hk with hk; omega)
        have k6 : Blk w6 g1 31 (cvs (stD c (i + 1))) := by
          rw [Nat.zero_add] at k6
          rw [hsn.out, cvs_set _ i zC (by omega), Nat.mul_comm 2 i]
          exact k6
        clear d0 b1 hLS hLD
        refine wp_go ?_
        go_wp2
        go_roundw
        case rel => exact ⟨i + 1, by omega, by go_num, k6, b2, hB⟩
        case measure => simp [intOf]; omega
    · have hi' : i = 16 := by omega
      subst hi'
      have hI : ¬ (16 : Int) < 16 := by omega
      rw [hend.out] at b1
      have hL := hid (show (cvs (stF c)).length = 32 by rw [← hend.out]; exact Ls.out 16)
      go_wp2_with (first | refine wp_ld 31 (.tmp 1) rfl rfl rfl b1.whole Try.underlying31 rfl (by rw [hL.out]; exact sizeCs) ?_ | (refine wp_st 31 (.tmp 2) (.tmp 17) rfl rfl rfl (f := 0) rfl (l := cvs (stF c)) rfl b2 (by rw [hL.out, len_zCs]; omega) (by rw [hL.out]; exact sizeCs) (one_cvs _) ?_; intro w6 k6 G6))
      have k6 := blk_all k6 (by rw [hL.out, len_zCs]; omega)
      have hB := hB.grown G6 hB.size (by intro k hk; injection hk with hk; omega)
      refine ret_cell rfl rfl k6.whole Try.underlying31 rfl (by rw [hL.out]; exact sizeCs) rfl ?_
      exact ⟨rfl, hB⟩
set_option maxRecDepth 100000 in
set_option maxHeartbeats 8000000 in
theorem done14_any (x : Cl) (o : Ok) (w : World) :
    Calls Try.prog 18 #[.agg x.l.toArray, .agg o.l.toArray] w fun e w' => e = .returned (.tuple #[.agg (dnC x o).1.l.toArray, .agg (rvs (dnC x o).2).toArray]) ∧ Below w.heap.size w w' := by
  obtain ⟨D, hD⟩ : ∃ D, D = dnC x o := ⟨_, rfl⟩
  rw [← hD]
  have HD := hid hD
  clear hD
  obtain ⟨W, hW, b2, b3, b4, b5, hB⟩ := alloc4 w 30 44 30 33 x.l o.l zC.l (rvs (false, 0))
  have b4 : Blk W (w.heap.size + 1 + 1) 30 zC.l := b4
  have b5 : Blk W (w.heap.size + 1 + 1 + 1) 33 (rvs (false, 0)) := b5
  obtain ⟨k, y, a, b⟩ := o
  obtain ⟨t, n⟩ := x
  go_enter Try.func18, Try.ntmps18
  go_wp2_with (first | (refine wp_new 30 rfl rfl zeroCl ?_; refine wp_new 33 rfl rfl zeroRs ?_; refine wp_stop ?_))
  rw [← hW]
  clear hW
  obtain ⟨g5, hg5⟩ : ∃ g, g = w.heap.size + 1 + 1 + 1 := ⟨_, rfl⟩
  rw [← hg5] at b5 ⊢
  obtain ⟨g4, hg4⟩ : ∃ g, g = w.heap.size + 1 + 1 := ⟨_, rfl⟩
  rw [← hg4] at b4 ⊢
  obtain ⟨g3, hg3⟩ : ∃ g, g = w.heap.size + 1 := ⟨_, rfl⟩
  rw [← hg3] at b3 ⊢
  obtain ⟨g2, hg2⟩ : ∃ g, g = w.heap.size := ⟨_, rfl⟩
  rw [← hg2] at b2 ⊢
  have hw2 : w.heap.size ≤ g2 := by omega
  have h23 : g2 < g3 := by omega
  have h34 : g3 < g4 := by omega
  have h45 : g4 < g5 := by omega
  clear hg2 hg3 hg4 hg5
  have c0 := b2.cellAt 0 _ rfl
  have c1 := b2.cellAt 1 _ rfl
  have d0 := b3.cellAt 0 _ rfl
  have d2 := b3.cellAt 2 _ rfl
  have d3 := b3.cellAt 3 _ rfl
  have X2 : Hid (∀ Z, Ch (fun y => y = g4 ∨ y = g5) W Z → Blk Z g2 30 (Cl.l ⟨t, n⟩)) := fun Z h => b2.ch h (by rintro (h | h) <;> omega)
  have X20 : Hid (∀ Z, Ch (fun y => y = g4 ∨ y = g5) W Z → Z.cell? ⟨g2, 0, none⟩ = some (.bool t)) := fun Z h => (X2.out Z h).cellAt 0 _ rfl
  have X21 : Hid (∀ Z, Ch (fun y => y = g4 ∨ y = g5) W Z → Z.cell? ⟨g2, 1, none⟩ = some (.int .i64 n)) := fun Z h => (X2.out Z h).cellAt 1 _ rfl
  have X3 : Hid (∀ Z, Ch (fun y => y = g4 ∨ y = g5) W Z → Blk Z g3 44 (Ok.l ⟨k, y, a, b⟩)) := fun Z h => b3.ch h (by rintro (h | h) <;> omega)
  have X32 : Hid (∀ Z, Ch (fun y => y = g4 ∨ y = g5) W Z → Z.cell? ⟨g3, 2, none⟩ = some (.int .i64 a)) := fun Z h => (X3.out Z h).cellAt 2 _ rfl
  have X33 : Hid (∀ Z, Ch (fun y => y = g4 ∨ y = g5) W Z → Z.cell? ⟨g3, 3, none⟩ = some (.int .i64 b)) := fun Z h => (X3.out Z h).cellAt 3 _ rfl
  refine wp_go ?_
  by_cases k1 : k = 1
  · subst k1
    have Hd : Hid (D = (⟨t, n⟩, (t, n))) := HD.out
    go_upto_region 3 with (fail)
    have h4 := b4.drew
    have h5 := b5.drew
    refine wp_region_noPanic ?_
    refine wp_region_held_drew (S := Ch (fun y => y = g4 ∨ y = g5) W) (by kernel_rfl) ((Ch.refl _ _).drew) (fun hHeld => ?_)
    refine wpAnyH_take (i := 0) (oi := ⟨some 11, .load 30 (.tmp 2), _, _, _, none⟩) (v := _) rfl (by kernel_rfl) (by kernel_rfl) (by kernel_rfl) (fun _ _ _ h => h) (yieldsIf_load_mid (by rfl) 30 (.tmp 2) (by rfl) _ (0) (by rfl) _ _ (fun _ hs => (X2.out _ hs).whole) Try.underlying30 rfl (sizeCl)) (by assumption) ?_
    try simp only [Act.put, List.setIfInBounds_toArray, List.set_cons_zero, List.set_cons_succ]
    refine wpAnyH_take (i := 1) (oi := ⟨some 12, _, _, _, _, none⟩) (v := ?_) rfl (by kernel_rfl) (by kernel_rfl) (by kernel_rfl) (fun _ _ _ h => h) (Or.inl ⟨by rfl, ?_⟩) (by assumption) ?_
    rotate_left
    · intro w hSw; go_simp; try with_reducible rfl
    try simp only [Act.put, List.setIfInBounds_toArray, List.set_cons_zero, List.set_cons_succ]
    refine wpAnyH_take (i := 2) (oi := ⟨some 13, _, _, _, _, none⟩) (v := ?_) rfl (by kernel_rfl) (by kernel_rfl) (by kernel_rfl) (fun _ _ _ h => h) (Or.inl ⟨by rfl, ?_⟩) (by assumption) ?_
    rotate_left
    · intro w hSw; have hcw := X20.out w hSw; go_simp; try with_reducible rfl
    try simp only [Act.put, List.setIfInBounds_toArray, List.set_cons_zero, List.set_cons_succ]
    refine wpAnyH_take (i := 3) (oi := ⟨some 14, _, _, _, _, none⟩) (v := ?_) rfl (by kernel_rfl) (by kernel_rfl) (by kernel_rfl) (fun _ _ _ h => h) (Or.inl ⟨by rfl, ?_⟩) (by assumption) ?_
    rotate_left
    · intro w hSw; go_simp; try with_reducible rfl
    try simp only [Act.put, List.setIfInBounds_toArray, List.set_cons_zero, List.set_cons_succ]
    refine wpAnyH_take (i := 4) (oi := ⟨some 15, _, _, _, _, none⟩) (v := ?_) rfl (by kernel_rfl) (by kernel_rfl) (by kernel_rfl) (fun _ _ _ h => h) (Or.inl ⟨by rfl, ?_⟩) (by assumption) ?_
    rotate_left
    · intro w hSw; have hcw := X21.out w hSw; go_simp; try with_reducible rfl
    try simp only [Act.put, List.setIfInBounds_toArray, List.set_cons_zero, List.set_cons_succ]
    refine wpAnyH_take (i := 5) (oi := ⟨some 16, .build 33 #[(0, .tmp 13), (1, .tmp 15)], _, _, _, none⟩) (v := _) rfl (by kernel_rfl) (by kernel_rfl) (by kernel_rfl) (fun _ _ _ h => h) (y_bld (by rfl) 33 [(0, .tmp 13), (1, .tmp 15)] (by rfl) [(0, .bool t), (1, .int .i64 n)] (by rfl) (bldRv t n)) (by assumption) ?_
    try simp only [Act.put, List.setIfInBounds_toArray, List.set_cons_zero, List.set_cons_succ]
    refine wpAnyH_ready (rs := [6]) (by kernel_rfl) (by simp) ?_
    refine AllReadyH.cons (o := ⟨none, .store 30 (.tmp 4) (.tmp 11), _, _, _, none⟩) rfl (fun K hK => ?_) AllReadyH.nil
    refine step_st 30 (.tmp 4) (.tmp 11) (by rfl) (by rfl) (by rfl) (f := 0) (by rfl) (l := (Cl.l ⟨t, n⟩)) (by rfl) h4 (by show 0 + 2 ≤ 2; omega) sizeCl (one_cl _) ?_
    intro x1 k4 G4
    have h4 := blk_all k4 (by show 2 ≤ 2; omega)
    have h5 := h5.keep (G4.block _ h5.lt (by intro e; injection e with e; omega))
    refine hK.out _ _ (hHeld.grow G4 (fun k hk => .inl (.inl (by injection hk with hk; exact hk.symm)))) (fun hHeld => ?_)
    clear hK K
    try simp only [Act.put, List.setIfInBounds_toArray, List.set_cons_zero, List.set_cons_succ]
    refine wpAnyH_ready (rs := [7]) (by kernel_rfl) (by simp) ?_
    refine AllReadyH.cons (o := ⟨none, .store 33 (.tmp 5) (.tmp 16), _, _, _, none⟩) rfl (fun K hK => ?_) AllReadyH.nil
    refine step_st 33 (.tmp 5) (.tmp 16) (by rfl) (by rfl) (by rfl) (f := 0) (by rfl) (l := rvs (t, n)) (by rfl) h5 (by show 0 + 2 ≤ 2; omega) sizeRs (one_rvs _) ?_
    intro x2 k5 G5
    have h5 := blk_all k5 (by show 2 ≤ 2; omega)
    have h4 := h4.keep (G5.block _ h4.lt (by intro e; injection e with e; omega))
    refine hK.out _ _ (hHeld.grow G5 (fun k hk => .inl (.inr (by injection hk with hk; exact hk.symm)))) (fun hHeld => ?_)
    clear hK K
    try simp only [Act.put, List.setIfInBounds_toArray, List.set_cons_zero, List.set_cons_succ]
    refine wpAnyH_done (by kernel_rfl) ?_ _
    refine NoPanic.normal ?_
    have hB := Ch.below_of hB hHeld (fun k hk => by rcases hk with rfl | rfl <;> omega) hB.size
    go_wp2
    refine ret_cell2 rfl rfl rfl h4.whole h5.whole Try.underlying30 rfl sizeCl Try.underlying33 rfl sizeRs rfl ?_
    exact ⟨by rw [Hd.out], hB⟩
  by_cases k2 : k = 2
  · subst k2
    have Hd : Hid (D = (⟨true, a⟩, (true, n))) := HD.out
    go_upto_region 5 with (fail)
    have h4 := b4.drew
    have h5 := b5.drew
    refine wp_region_noPanic ?_
    refine wp_region_held_drew (S := Ch (fun y => y = g4 ∨ y = g5) W) (by kernel_rfl) ((Ch.refl _ _).drew) (fun hHeld => ?_)
    refine wpAnyH_take (i := 0) (oi := ⟨some 19, _, _, _, _, none⟩) (v := ?_) rfl (by kernel_rfl) (by kernel_rfl) (by kernel_rfl) (fun _ _ _ h => h) (Or.inl ⟨by rfl, ?_⟩) (by assumption) ?_
    rotate_left
    · intro w hSw; go_simp; try with_reducible rfl
    try simp only [Act.put, List.setIfInBounds_toArray, List.set_cons_zero, List.set_cons_succ]
    refine wpAnyH_take (i := 1) (oi := ⟨some 20, _, _, _, _, none⟩) (v := ?_) rfl (by kernel_rfl) (by kernel_rfl) (by kernel_rfl) (fun _ _ _ h => h) (Or.inl ⟨by rfl, ?_⟩) (by assumption) ?_
    rotate_left
    · intro w hSw; have hcw := X32.out w hSw; go_simp; try with_reducible rfl
    try simp only [Act.put, List.setIfInBounds_toArray, List.set_cons_zero, List.set_cons_succ]
    refine wpAnyH_take (i := 3) (oi := ⟨some 22, _, _, _, _, none⟩) (v := ?_) rfl (by kernel_rfl) (by kernel_rfl) (by kernel_rfl) (fun _ _ _ h => h) (Or.inl ⟨by rfl, ?_⟩) (by assumption) ?_
    rotate_left
    · intro w hSw; go_simp; try with_reducible rfl
    try simp only [Act.put, List.setIfInBounds_toArray, List.set_cons_zero, List.set_cons_succ]
    refine wpAnyH_take (i := 4) (oi := ⟨some 23, _, _, _, _, none⟩) (v := ?_) rfl (by kernel_rfl) (by kernel_rfl) (by kernel_rfl) (fun _ _ _ h => h) (Or.inl ⟨by rfl, ?_⟩) (by assumption) ?_
    rotate_left
    · intro w hSw; have hcw := X21.out w hSw; go_simp; try with_reducible rfl
    try simp only [Act.put, List.setIfInBounds_toArray, List.set_cons_zero, List.set_cons_succ]
    refine wpAnyH_take (i := 5) (oi := ⟨some 24, .build 33 #[(0, .const (.bool true)), (1, .tmp 23)], _, _, _, none⟩) (v := _) rfl (by kernel_rfl) (by kernel_rfl) (by kernel_rfl) (fun _ _ _ h => h) (y_bld (by rfl) 33 [(0, .const (.bool true)), (1, .tmp 23)] (by rfl) [(0, .bool true), (1, .int .i64 n)] (by rfl) (bldRv true n)) (by assumption) ?_
    try simp only [Act.put, List.setIfInBounds_toArray, List.set_cons_zero, List.set_cons_succ]
    refine wpAnyH_ready (rs := [2]) (by kernel_rfl) (by simp) ?_
    refine AllReadyH.cons (o := ⟨some 21, _, _, _, _, none⟩) rfl (fun K hK => ?_) AllReadyH.nil
    go_simp
    refine (value14_any a _).mono ?_
    rintro e' w7 ⟨rfl, hB7⟩
    have h4 := h4.below hB7
    have h5 := h5.below hB7
    refine hK.out _ _ (hHeld.belowR hB7) (fun hHeld => ?_)
    clear hK K
    try simp only [Act.put, List.setIfInBounds_toArray, List.set_cons_zero, List.set_cons_succ]
    refine wpAnyH_ready (rs := [6]) (by kernel_rfl) (by simp) ?_
    refine AllReadyH.cons (o := ⟨none, .store 30 (.tmp 4) (.tmp 21), _, _, _, none⟩) rfl (fun K hK => ?_) AllReadyH.nil
    refine step_st 30 (.tmp 4) (.tmp 21) (by rfl) (by rfl) (by rfl) (f := 0) (by rfl) (l := Cl.l ⟨true, a⟩) (by rfl) h4 (by show 0 + 2 ≤ 2; omega) sizeCl (one_cl _) ?_
    intro x1 k4 G4
    have h4 := blk_all k4 (by show 2 ≤ 2; omega)
    have h5 := h5.keep (G4.block _ h5.lt (by intro e; injection e with e; omega))
    refine hK.out _ _ (hHeld.grow G4 (fun k hk => .inl (.inl (by injection hk with hk; exact hk.symm)))) (fun hHeld => ?_)
    clear hK K
    try simp only [Act.put, List.setIfInBounds_toArray, List.set_cons_zero, List.set_cons_succ]
    refine wpAnyH_ready (rs := [7]) (by kernel_rfl) (by simp) ?_
    refine AllReadyH.cons (o := ⟨none, .store 33 (.tmp 5) (.tmp 24), _, _, _, none⟩) rfl (fun K hK => ?_) AllReadyH.nil
    refine step_st 33 (.tmp 5) (.tmp 24) (by rfl) (by rfl) (by rfl) (f := 0) (by rfl) (l := rvs (true, n)) (by rfl) h5 (by show 0 + 2 ≤ 2; omega) sizeRs (one_rvs _) ?_
    intro x2 k5 G5
    have h5 := blk_all k5 (by show 2 ≤ 2; omega)
    have h4 := h4.keep (G5.block _ h4.lt (by intro e; injection e with e; omega))
    refine hK.out _ _ (hHeld.grow G5 (fun k hk => .inl (.inr (by injection hk with hk; exact hk.symm)))) (fun hHeld => ?_)
    clear hK K
    try simp only [Act.put, List.setIfInBounds_toArray, List.set_cons_zero, List.set_cons_succ]
    refine wpAnyH_done (by kernel_rfl) ?_ _
    refine NoPanic.normal ?_
    have hB := Ch.below_of hB hHeld (fun k hk => by rcases hk with rfl | rfl <;> omega) hB.size
    go_wp2
    refine ret_cell2 rfl rfl rfl h4.whole h5.whole Try.underlying30 rfl sizeCl Try.underlying33 rfl sizeRs rfl ?_
    exact ⟨by rw [Hd.out], hB⟩
  by_cases k3 : k = 3
  · subst k3
    have Hd : Hid (D = (⟨true, w64 (n + a)⟩, (true, w64 (n + a)))) := HD.out
    obtain ⟨z, hz'⟩ : ∃ z, z = w64 (n + a) := ⟨_, rfl⟩
    rw [← hz'] at Hd
    have Hz : Hid (wrap64 (n + a) = z) := hid ((IntWalk.i64_left _).symm.trans hz'.symm)
    clear hz'
    go_wp2_with (fail)
    rw [Hz.out]
    refine (value14_any z _).mono ?_
    rintro e w7 ⟨rfl, hB7⟩
    have h4 := b4.below hB7
    have h5 := b5.below hB7
    have hB := hB.trans (hB7.mono hB.size)
    clear b2 b3 b4 b5 c0 c1 d0 d2 d3
    go_wp2_with (first | refine wp_bld 33 [(0, .const (.bool true)), (1, .tmp 34)] rfl rfl [(0, .bool true), (1, .int .i64 z)] rfl (bldRv true z) ?_ | (refine wp_st 30 (.tmp 4) (.tmp 33) rfl rfl rfl (f := 0) rfl (l := Cl.l ⟨true, z⟩) rfl h4 (by show 0 + 2 ≤ 2; omega) sizeCl (one_cl _) ?_; intro x1 k4 G4; refine wp_st 33 (.tmp 5) (.tmp 35) rfl rfl rfl (f := 0) rfl (l := rvs (true, z)) rfl (h5.keep (G4.block _ h5.lt (by intro e; injection e with e; omega))) (by show 0 + 2 ≤ 2; omega) sizeRs (one_rvs _) ?_; intro x2 k5 G5))
    have h4 := (blk_all k4 (by show 2 ≤ 2; omega)).keep (G5.block _ k4.lt (by intro e; injection e with e; omega))
    have h5 := blk_all k5 (by show 2 ≤ 2; omega)
    have hB := (hB.grown G4 hB.size (by intro k hk; injection hk with hk; omega)).grown G5 (Nat.le_trans hB.size G4.size) (by intro k hk; injection hk with hk; omega)
    refine ret_cell2 rfl rfl rfl h4.whole h5.whole Try.underlying30 rfl sizeCl Try.underlying33 rfl sizeRs rfl ?_
    exact ⟨by rw [Hd.out], hB⟩
  by_cases k4 : k = 4
  · subst k4
    by_cases hh : t = true ∧ n = a
    · obtain ⟨rfl, rfl⟩ := hh
      have Hd : Hid (D = (⟨true, b⟩, (true, b))) := by show _ = _; rw [HD.out]; simp [dnC]
      go_upto_region 10 with (fail)
      refine wp_region_noPanic ?_
      refine wp_region_held_drew (S := Ch nob W) (by kernel_rfl) ((Ch.refl _ _).drew) (fun hHeld => ?_)
      refine wpAnyH_take (i := 0) (oi := ⟨some 38, .load 30 (.tmp 2), _, _, _, none⟩) (v := _) rfl (by kernel_rfl) (by kernel_rfl) (by kernel_rfl) (fun _ _ _ h => h) (yieldsIf_load_mid (by rfl) 30 (.tmp 2) (by rfl) _ (0) (by rfl) _ _ (fun _ hs => (X2.out _ (hs.weaken (fun _ _ e => e.elim))).whole) Try.underlying30 rfl (sizeCl)) (by assumption) ?_
      try simp only [Act.put, List.setIfInBounds_toArray, List.set_cons_zero, List.set_cons_succ]
      refine wpAnyH_take (i := 1) (oi := ⟨some 39, _, _, _, _, none⟩) (v := ?_) rfl (by kernel_rfl) (by kernel_rfl) (by kernel_rfl) (fun _ _ _ h => h) (Or.inl ⟨by rfl, ?_⟩) (by assumption) ?_
      rotate_left
      · intro w hSw; go_simp; try with_reducible rfl
      try simp only [Act.put, List.setIfInBounds_toArray, List.set_cons_zero, List.set_cons_succ]
      refine wpAnyH_take (i := 2) (oi := ⟨some 40, _, _, _, _, none⟩) (v := ?_) rfl (by kernel_rfl) (by kernel_rfl) (by kernel_rfl) (fun _ _ _ h => h) (Or.inl ⟨by rfl, ?_⟩) (by assumption) ?_
      rotate_left
      · intro w hSw; have hcw := X32.out w (hSw.weaken (fun _ _ e => e.elim)); go_simp; try with_reducible rfl
      try simp only [Act.put, List.setIfInBounds_toArray, List.set_cons_zero, List.set_cons_succ]
      refine wpAnyH_ready (rs := [3]) (by kernel_rfl) (by simp) ?_
      refine AllReadyH.cons (o := ⟨some 41, _, _, _, _, none⟩) rfl (fun K hK => ?_) AllReadyH.nil
      go_simp
      refine (value14_any n _).mono ?_
      rintro e' w7 ⟨rfl, hB7⟩
      refine hK.out _ _ (hHeld.belowR hB7) (fun hHeld => ?_)
      clear hK K
      try simp only [Act.put, List.setIfInBounds_toArray, List.set_cons_zero, List.set_cons_succ]
      refine wpAnyH_take (i := 4) (oi := ⟨some 42, _, _, _, _, none⟩) (v := ?_) rfl (by kernel_rfl) (by kernel_rfl) (by kernel_rfl) (fun _ _ _ h => h) (Or.inl ⟨by rfl, ?_⟩) (by assumption) ?_
      rotate_left
      · intro w hSw; unfold Cl.l; go_simp; try with_reducible rfl
      try simp only [Act.put, List.setIfInBounds_toArray, List.set_cons_zero, List.set_cons_succ]
      refine wpAnyH_done (by kernel_rfl) ?_ _
      refine NoPanic.normal ?_
      have b4 := b4.ch hHeld (fun e => e)
      have b5 := b5.ch hHeld (fun e => e)
      have b2 := b2.ch hHeld (fun e => e)
      have b3 := b3.ch hHeld (fun e => e)
      have c1 := b2.cellAt 1 _ rfl
      have d3 := b3.cellAt 3 _ rfl
      have hB := Ch.below_of hB hHeld (fun k hk => hk.elim) hB.size
      clear c0 d0 d2 X20 X21 X32 X33 X2 X3
      have X2 : Hid (∀ Z, Ch (fun y => y = g4 ∨ y = g5) w7 Z → Blk Z g2 30 (Cl.l ⟨true, n⟩)) := fun Z h => b2.ch h (by rintro (h | h) <;> omega)
      have X21 : Hid (∀ Z, Ch (fun y => y = g4 ∨ y = g5) w7 Z → Z.cell? ⟨g2, 1, none⟩ = some (.int .i64 n)) := fun Z h => (X2.out Z h).cellAt 1 _ rfl
      have X3 : Hid (∀ Z, Ch (fun y => y = g4 ∨ y = g5) w7 Z → Blk Z g3 44 (Ok.l ⟨4, y, n, b⟩)) := fun Z h => b3.ch h (by rintro (h | h) <;> omega)
      have X33 : Hid (∀ Z, Ch (fun y => y = g4 ∨ y = g5) w7 Z → Z.cell? ⟨g3, 3, none⟩ = some (.int .i64 b)) := fun Z h => (X3.out Z h).cellAt 3 _ rfl
      go_upto_region 12 with (fail)
      have h4 := b4.drew
      have h5 := b5.drew
      refine wp_region_noPanic ?_
      refine wp_region_held_drew (S := Ch (fun y => y = g4 ∨ y = g5) w7) (by kernel_rfl) ((Ch.refl _ _).drew) (fun hHeld => ?_)
      refine wpAnyH_take (i := 0) (oi := ⟨some 47, _, _, _, _, none⟩) (v := ?_) rfl (by kernel_rfl) (by kernel_rfl) (by kernel_rfl) (fun _ _ _ h => h) (Or.inl ⟨by rfl, ?_⟩) (by assumption) ?_
      rotate_left
      · intro w hSw; go_simp; try with_reducible rfl
      try simp only [Act.put, List.setIfInBounds_toArray, List.set_cons_zero, List.set_cons_succ]
      refine wpAnyH_take (i := 1) (oi := ⟨some 48, _, _, _, _, none⟩) (v := ?_) rfl (by kernel_rfl) (by kernel_rfl) (by kernel_rfl) (fun _ _ _ h => h) (Or.inl ⟨by rfl, ?_⟩) (by assumption) ?_
      rotate_left
      · intro w hSw; have hcw := X33.out w hSw; go_simp; try with_reducible rfl
      try simp only [Act.put, List.setIfInBounds_toArray, List.set_cons_zero, List.set_cons_succ]
      refine wpAnyH_take (i := 3) (oi := ⟨some 50, _, _, _, _, none⟩) (v := ?_) rfl (by kernel_rfl) (by kernel_rfl) (by kernel_rfl) (fun _ _ _ h => h) (Or.inl ⟨by rfl, ?_⟩) (by assumption) ?_
      rotate_left
      · intro w hSw; go_simp; try with_reducible rfl
      try simp only [Act.put, List.setIfInBounds_toArray, List.set_cons_zero, List.set_cons_succ]
      refine wpAnyH_take (i := 4) (oi := ⟨some 51, _, _, _, _, none⟩) (v := ?_) rfl (by kernel_rfl) (by kernel_rfl) (by kernel_rfl) (fun _ _ _ h => h) (Or.inl ⟨by rfl, ?_⟩) (by assumption) ?_
      rotate_left
      · intro w hSw; have hcw := X33.out w hSw; go_simp; try with_reducible rfl
      try simp only [Act.put, List.setIfInBounds_toArray, List.set_cons_zero, List.set_cons_succ]
      refine wpAnyH_take (i := 5) (oi := ⟨some 52, .build 33 #[(0, .const (.bool true)), (1, .tmp 51)], _, _, _, none⟩) (v := _) rfl (by kernel_rfl) (by kernel_rfl) (by kernel_rfl) (fun _ _ _ h => h) (y_bld (by rfl) 33 [(0, .const (.bool true)), (1, .tmp 51)] (by rfl) [(0, .bool true), (1, .int .i64 b)] (by rfl) (bldRv true b)) (by assumption) ?_
      try simp only [Act.put, List.setIfInBounds_toArray, List.set_cons_zero, List.set_cons_succ]
      refine wpAnyH_ready (rs := [2]) (by kernel_rfl) (by simp) ?_
      refine AllReadyH.cons (o := ⟨some 49, _, _, _, _, none⟩) rfl (fun K hK => ?_) AllReadyH.nil
      go_simp
      refine (value14_any b _).mono ?_
      rintro e' w7 ⟨rfl, hB7⟩
      have h4 := h4.below hB7
      have h5 := h5.below hB7
      refine hK.out _ _ (hHeld.belowR hB7) (fun hHeld => ?_)
      clear hK K
      try simp only [Act.put, List.setIfInBounds_toArray, List.set_cons_zero, List.set_cons_succ]
      refine wpAnyH_ready (rs := [6]) (by kernel_rfl) (by simp) ?_
      refine AllReadyH.cons (o := ⟨none, .store 30 (.tmp 4) (.tmp 49), _, _, _, none⟩) rfl (fun K hK => ?_) AllReadyH.nil
      refine step_st 30 (.tmp 4) (.tmp 49) (by rfl) (by rfl) (by rfl) (f := 0) (by rfl) (l := Cl.l ⟨true, b⟩) (by rfl) h4 (by show 0 + 2 ≤ 2; omega) sizeCl (one_cl _) ?_
      intro x1 k4 G4
      have h4 := blk_all k4 (by show 2 ≤ 2; omega)
      have h5 := h5.keep (G4.block _ h5.lt (by intro e; injection e with e; omega))
      refine hK.out _ _ (hHeld.grow G4 (fun k hk => .inl (.inl (by injection hk with hk; exact hk.symm)))) (fun hHeld => ?_)
      clear hK K
      try simp only [Act.put, List.setIfInBounds_toArray, List.set_cons_zero, List.set_cons_succ]
      refine wpAnyH_ready (rs := [7]) (by kernel_rfl) (by simp) ?_
      refine AllReadyH.cons (o := ⟨none, .store 33 (.tmp 5) (.tmp 52), _, _, _, none⟩) rfl (fun K hK => ?_) AllReadyH.nil
      refine step_st 33 (.tmp 5) (.tmp 52) (by rfl) (by rfl) (by rfl) (f := 0) (by rfl) (l := rvs (true, b)) (by rfl) h5 (by show 0 + 2 ≤ 2; omega) sizeRs (one_rvs _) ?_
      intro x2 k5 G5
      have h5 := blk_all k5 (by show 2 ≤ 2; omega)
      have h4 := h4.keep (G5.block _ h4.lt (by intro e; injection e with e; omega))
      refine hK.out _ _ (hHeld.grow G5 (fun k hk => .inl (.inr (by injection hk with hk; exact hk.symm)))) (fun hHeld => ?_)
      clear hK K
      try simp only [Act.put, List.setIfInBounds_toArray, List.set_cons_zero, List.set_cons_succ]
      refine wpAnyH_done (by kernel_rfl) ?_ _
      refine NoPanic.normal ?_
      have hB := Ch.below_of hB hHeld (fun k hk => by rcases hk with rfl | rfl <;> omega) hB.size
      go_wp2
      refine ret_cell2 rfl rfl rfl h4.whole h5.whole Try.underlying30 rfl sizeCl Try.underlying33 rfl sizeRs rfl ?_
      exact ⟨by rw [Hd.out], hB⟩
    · cases t with
      | false =>
        have Hd : Hid (D = (⟨false, n⟩, (false, n))) := by show _ = _; rw [HD.out]; simp [dnC]
        clear hh
        go_upto_region 10 with (fail)
        refine wp_region_noPanic ?_
        refine wp_region_held_drew (S := Ch nob W) (by kernel_rfl) ((Ch.refl _ _).drew) (fun hHeld => ?_)
        refine wpAnyH_take (i := 0) (oi := ⟨some 38, .load 30 (.tmp 2), _, _, _, none⟩) (v := _) rfl (by kernel_rfl) (by kernel_rfl) (by kernel_rfl) (fun _ _ _ h => h) (yieldsIf_load_mid (by rfl) 30 (.tmp 2) (by rfl) _ (0) (by rfl) _ _ (fun _ hs => (X2.out _ (hs.weaken (fun _ _ e => e.elim))).whole) Try.underlying30 rfl (sizeCl)) (by assumption) ?_
        try simp only [Act.put, List.setIfInBounds_toArray, List.set_cons_zero, List.set_cons_succ]
        refine wpAnyH_take (i := 1) (oi := ⟨some 39, _, _, _, _, none⟩) (v := ?_) rfl (by kernel_rfl) (by kernel_rfl) (by kernel_rfl) (fun _ _ _ h => h) (Or.inl ⟨by rfl, ?_⟩) (by assumption) ?_
        rotate_left
        · intro w hSw; go_simp; try with_reducible rfl
        try simp only [Act.put, List.setIfInBounds_toArray, List.set_cons_zero, List.set_cons_succ]
        refine wpAnyH_take (i := 2) (oi := ⟨some 40, _, _, _, _, none⟩) (v := ?_) rfl (by kernel_rfl) (by kernel_rfl) (by kernel_rfl) (fun _ _ _ h => h) (Or.inl ⟨by rfl, ?_⟩) (by assumption) ?_
        rotate_left
        · intro w hSw; have hcw := X32.out w (hSw.weaken (fun _ _ e => e.elim)); go_simp; try with_reducible rfl
        try simp only [Act.put, List.setIfInBounds_toArray, List.set_cons_zero, List.set_cons_succ]
        refine wpAnyH_ready (rs := [3]) (by kernel_rfl) (by simp) ?_
        refine AllReadyH.cons (o := ⟨some 41, _, _, _, _, none⟩) rfl (fun K hK => ?_) AllReadyH.nil
        go_simp
        refine (value14_any a _).mono ?_
        rintro e' w7 ⟨rfl, hB7⟩
        refine hK.out _ _ (hHeld.belowR hB7) (fun hHeld => ?_)
        clear hK K
        try simp only [Act.put, List.setIfInBounds_toArray, List.set_cons_zero, List.set_cons_succ]
        refine wpAnyH_take (i := 4) (oi := ⟨some 42, _, _, _, _, none⟩) (v := ?_) rfl (by kernel_rfl) (by kernel_rfl) (by kernel_rfl) (fun _ _ _ h => h) (Or.inl ⟨by rfl, ?_⟩) (by assumption) ?_
        rotate_left
        · intro w hSw; unfold Cl.l; go_simp; try with_reducible rfl
        try simp only [Act.put, List.setIfInBounds_toArray, List.set_cons_zero, List.set_cons_succ]
        refine wpAnyH_done (by kernel_rfl) ?_ _
        refine NoPanic.normal ?_
        have b4 := b4.ch hHeld (fun e => e)
        have b5 := b5.ch hHeld (fun e => e)
        have b2 := b2.ch hHeld (fun e => e)
        have b3 := b3.ch hHeld (fun e => e)
        have c1 := b2.cellAt 1 _ rfl
        have d3 := b3.cellAt 3 _ rfl
        have hB := Ch.below_of hB hHeld (fun k hk => hk.elim) hB.size
        clear c0 d0 d2 X20 X21 X32 X33 X2 X3
        have X2 : Hid (∀ Z, Ch (fun y => y = g4 ∨ y = g5) w7 Z → Blk Z g2 30 (Cl.l ⟨false, n⟩)) := fun Z h => b2.ch h (by rintro (h | h) <;> omega)
        have X21 : Hid (∀ Z, Ch (fun y => y = g4 ∨ y = g5) w7 Z → Z.cell? ⟨g2, 1, none⟩ = some (.int .i64 n)) := fun Z h => (X2.out Z h).cellAt 1 _ rfl
        have X3 : Hid (∀ Z, Ch (fun y => y = g4 ∨ y = g5) w7 Z → Blk Z g3 44 (Ok.l ⟨4, y, a, b⟩)) := fun Z h => b3.ch h (by rintro (h | h) <;> omega)
        have X33 : Hid (∀ Z, Ch (fun y => y = g4 ∨ y = g5) w7 Z → Z.cell? ⟨g3, 3, none⟩ = some (.int .i64 b)) := fun Z h => (X3.out Z h).cellAt 3 _ rfl
        go_upto_region 11 with (fail)
        have h4 := b4.drew
        have h5 := b5.drew
        refine wp_region_noPanic ?_
        refine wp_region_held_drew (S := Ch (fun y => y = g4 ∨ y = g5) w7) (by kernel_rfl) ((Ch.refl _ _).drew) (fun hHeld => ?_)
        refine wpAnyH_take (i := 0) (oi := ⟨some 43, .load 30 (.tmp 2), _, _, _, none⟩) (v := _) rfl (by kernel_rfl) (by kernel_rfl) (by kernel_rfl) (fun _ _ _ h => h) (yieldsIf_load_mid (by rfl) 30 (.tmp 2) (by rfl) _ (0) (by rfl) _ _ (fun _ hs => (X2.out _ hs).whole) Try.underlying30 rfl (sizeCl)) (by assumption) ?_
        try simp only [Act.put, List.setIfInBounds_toArray, List.set_cons_zero, List.set_cons_succ]
        refine wpAnyH_take (i := 1) (oi := ⟨some 44, _, _, _, _, none⟩) (v := ?_) rfl (by kernel_rfl) (by kernel_rfl) (by kernel_rfl) (fun _ _ _ h => h) (Or.inl ⟨by rfl, ?_⟩) (by assumption) ?_
        rotate_left
        · intro w hSw; go_simp; try with_reducible rfl
        try simp only [Act.put, List.setIfInBounds_toArray, List.set_cons_zero, List.set_cons_succ]
        refine wpAnyH_take (i := 2) (oi := ⟨some 45, _, _, _, _, none⟩) (v := ?_) rfl (by kernel_rfl) (by kernel_rfl) (by kernel_rfl) (fun _ _ _ h => h) (Or.inl ⟨by rfl, ?_⟩) (by assumption) ?_
        rotate_left
        · intro w hSw; have hcw := X21.out w hSw; go_simp; try with_reducible rfl
        try simp only [Act.put, List.setIfInBounds_toArray, List.set_cons_zero, List.set_cons_succ]
        refine wpAnyH_take (i := 3) (oi := ⟨some 46, .build 33 #[(1, .tmp 45)], _, _, _, none⟩) (v := _) rfl (by kernel_rfl) (by kernel_rfl) (by kernel_rfl) (fun _ _ _ h => h) (y_bld (by rfl) 33 [(1, .tmp 45)] (by rfl) [(1, .int .i64 n)] (by rfl) (bldRn n)) (by assumption) ?_
        try simp only [Act.put, List.setIfInBounds_toArray, List.set_cons_zero, List.set_cons_succ]
        refine wpAnyH_ready (rs := [4]) (by kernel_rfl) (by simp) ?_
        refine AllReadyH.cons (o := ⟨none, .store 30 (.tmp 4) (.tmp 43), _, _, _, none⟩) rfl (fun K hK => ?_) AllReadyH.nil
        refine step_st 30 (.tmp 4) (.tmp 43) (by rfl) (by rfl) (by rfl) (f := 0) (by rfl) (l := (Cl.l ⟨false, n⟩)) (by rfl) h4 (by show 0 + 2 ≤ 2; omega) sizeCl (one_cl _) ?_
        intro x1 k4 G4
        have h4 := blk_all k4 (by show 2 ≤ 2; omega)
        have h5 := h5.keep (G4.block _ h5.lt (by intro e; injection e with e; omega))
        refine hK.out _ _ (hHeld.grow G4 (fun k hk => .inl (.inl (by injection hk with hk; exact hk.symm)))) (fun hHeld => ?_)
        clear hK K
        try simp only [Act.put, List.setIfInBounds_toArray, List.set_cons_zero, List.set_cons_succ]
        refine wpAnyH_ready (rs := [5]) (by kernel_rfl) (by simp) ?_
        refine AllReadyH.cons (o := ⟨none, .store 33 (.tmp 5) (.tmp 46), _, _, _, none⟩) rfl (fun K hK => ?_) AllReadyH.nil
        refine step_st 33 (.tmp 5) (.tmp 46) (by rfl) (by rfl) (by rfl) (f := 0) (by rfl) (l := rvs (false, n)) (by rfl) h5 (by show 0 + 2 ≤ 2; omega) sizeRs (one_rvs _) ?_
        intro x2 k5 G5
        have h5 := blk_all k5 (by show 2 ≤ 2; omega)
        have h4 := h4.keep (G5.block _ h4.lt (by intro e; injection e with e; omega))
        refine hK.out _ _ (hHeld.grow G5 (fun k hk => .inl (.inr (by injection hk with hk; exact hk.symm)))) (fun hHeld => ?_)
        clear hK K
        try simp only [Act.put, List.setIfInBounds_toArray, List.set_cons_zero, List.set_cons_succ]
        refine wpAnyH_done (by kernel_rfl) ?_ _
        refine NoPanic.normal ?_
        have hB := Ch.below_of hB hHeld (fun k hk => by rcases hk with rfl | rfl <;> omega) hB.size
        go_wp2
        refine ret_cell2 rfl rfl rfl h4.whole h5.whole Try.underlying30 rfl sizeCl Try.underlying33 rfl sizeRs rfl ?_
        exact ⟨by rw [Hd.out], hB⟩
      | true =>
        have hna : ¬ n = a := fun h => hh ⟨rfl, h⟩
        have Hd : Hid (D = (⟨true, n⟩, (false, n))) := by show _ = _; rw [HD.out]; simp [dnC, hna]
        clear hh
        go_upto_region 10 with (fail)
        refine wp_region_noPanic ?_
        refine wp_region_held_drew (S := Ch nob W) (by kernel_rfl) ((Ch.refl _ _).drew) (fun hHeld => ?_)
        refine wpAnyH_take (i := 0) (oi := ⟨some 38, .load 30 (.tmp 2), _, _, _, none⟩) (v := _) rfl (by kernel_rfl) (by kernel_rfl) (by kernel_rfl) (fun _ _ _ h => h) (yieldsIf_load_mid (by rfl) 30 (.tmp 2) (by rfl) _ (0) (by rfl) _ _ (fun _ hs => (X2.out _ (hs.weaken (fun _ _ e => e.elim))).whole) Try.underlying30 rfl (sizeCl)) (by assumption) ?_
        try simp only [Act.put, List.setIfInBounds_toArray, List.set_cons_zero, List.set_cons_succ]
        refine wpAnyH_take (i := 1) (oi := ⟨some 39, _, _, _, _, none⟩) (v := ?_) rfl (by kernel_rfl) (by kernel_rfl) (by kernel_rfl) (fun _ _ _ h => h) (Or.inl ⟨by rfl, ?_⟩) (by assumption) ?_
        rotate_left
        · intro w hSw; go_simp; try with_reducible rfl
        try simp only [Act.put, List.setIfInBounds_toArray, List.set_cons_zero, List.set_cons_succ]
        refine wpAnyH_take (i := 2) (oi := ⟨some 40, _, _, _, _, none⟩) (v := ?_) rfl (by kernel_rfl) (by kernel_rfl) (by kernel_rfl) (fun _ _ _ h => h) (Or.inl ⟨by rfl, ?_⟩) (by assumption) ?_
        rotate_left
        · intro w hSw; have hcw := X32.out w (hSw.weaken (fun _ _ e => e.elim)); go_simp; try with_reducible rfl
        try simp only [Act.put, List.setIfInBounds_toArray, List.set_cons_zero, List.set_cons_succ]
        refine wpAnyH_ready (rs := [3]) (by kernel_rfl) (by simp) ?_
        refine AllReadyH.cons (o := ⟨some 41, _, _, _, _, none⟩) rfl (fun K hK => ?_) AllReadyH.nil
        go_simp
        refine (value14_any a _).mono ?_
        rintro e' w7 ⟨rfl, hB7⟩
        refine hK.out _ _ (hHeld.belowR hB7) (fun hHeld => ?_)
        clear hK K
        try simp only [Act.put, List.setIfInBounds_toArray, List.set_cons_zero, List.set_cons_succ]
        refine wpAnyH_take (i := 4) (oi := ⟨some 42, _, _, _, _, none⟩) (v := ?_) rfl (by kernel_rfl) (by kernel_rfl) (by kernel_rfl) (fun _ _ _ h => h) (Or.inl ⟨by rfl, ?_⟩) (by assumption) ?_
        rotate_left
        · intro w hSw; unfold Cl.l; go_simp; try with_reducible rfl
        try simp only [Act.put, List.setIfInBounds_toArray, List.set_cons_zero, List.set_cons_succ]
        refine wpAnyH_done (by kernel_rfl) ?_ _
        refine NoPanic.normal ?_
        have b4 := b4.ch hHeld (fun e => e)
        have b5 := b5.ch hHeld (fun e => e)
        have b2 := b2.ch hHeld (fun e => e)
        have b3 := b3.ch hHeld (fun e => e)
        have c1 := b2.cellAt 1 _ rfl
        have d3 := b3.cellAt 3 _ rfl
        have hB := Ch.below_of hB hHeld (fun k hk => hk.elim) hB.size
        clear c0 d0 d2 X20 X21 X32 X33 X2 X3
        have X2 : Hid (∀ Z, Ch (fun y => y = g4 ∨ y = g5) w7 Z → Blk Z g2 30 (Cl.l ⟨true, n⟩)) := fun Z h => b2.ch h (by rintro (h | h) <;> omega)
        have X21 : Hid (∀ Z, Ch (fun y => y = g4 ∨ y = g5) w7 Z → Z.cell? ⟨g2, 1, none⟩ = some (.int .i64 n)) := fun Z h => (X2.out Z h).cellAt 1 _ rfl
        have X3 : Hid (∀ Z, Ch (fun y => y = g4 ∨ y = g5) w7 Z → Blk Z g3 44 (Ok.l ⟨4, y, a, b⟩)) := fun Z h => b3.ch h (by rintro (h | h) <;> omega)
        have X33 : Hid (∀ Z, Ch (fun y => y = g4 ∨ y = g5) w7 Z → Z.cell? ⟨g3, 3, none⟩ = some (.int .i64 b)) := fun Z h => (X3.out Z h).cellAt 3 _ rfl
        go_upto_region 11 with (fail)
        have h4 := b4.drew
        have h5 := b5.drew
        refine wp_region_noPanic ?_
        refine wp_region_held_drew (S := Ch (fun y => y = g4 ∨ y = g5) w7) (by kernel_rfl) ((Ch.refl _ _).drew) (fun hHeld => ?_)
        refine wpAnyH_take (i := 0) (oi := ⟨some 43, .load 30 (.tmp 2), _, _, _, none⟩) (v := _) rfl (by kernel_rfl) (by kernel_rfl) (by kernel_rfl) (fun _ _ _ h => h) (yieldsIf_load_mid (by rfl) 30 (.tmp 2) (by rfl) _ (0) (by rfl) _ _ (fun _ hs => (X2.out _ hs).whole) Try.underlying30 rfl (sizeCl)) (by assumption) ?_
        try simp only [Act.put, List.setIfInBounds_toArray, List.set_cons_zero, List.set_cons_succ]
        refine wpAnyH_take (i := 1) (oi := ⟨some 44, _, _, _, _, none⟩) (v := ?_) rfl (by kernel_rfl) (by kernel_rfl) (by kernel_rfl) (fun _ _ _ h => h) (Or.inl ⟨by rfl, ?_⟩) (by assumption) ?_
        rotate_left
        · intro w hSw; go_simp; try with_reducible rfl
        try simp only [Act.put, List.setIfInBounds_toArray, List.set_cons_zero, List.set_cons_succ]
        refine wpAnyH_take (i := 2) (oi := ⟨some 45, _, _, _, _, none⟩) (v := ?_) rfl (by kernel_rfl) (by kernel_rfl) (by kernel_rfl) (fun _ _ _ h => h) (Or.inl ⟨by rfl, ?_⟩) (by assumption) ?_
        rotate_left
        · intro w hSw; have hcw := X21.out w hSw; go_simp; try with_reducible rfl
        try simp only [Act.put, List.setIfInBounds_toArray, List.set_cons_zero, List.set_cons_succ]
        refine wpAnyH_take (i := 3) (oi := ⟨some 46, .build 33 #[(1, .tmp 45)], _, _, _, none⟩) (v := _) rfl (by kernel_rfl) (by kernel_rfl) (by kernel_rfl) (fun _ _ _ h => h) (y_bld (by rfl) 33 [(1, .tmp 45)] (by rfl) [(1, .int .i64 n)] (by rfl) (bldRn n)) (by assumption) ?_
        try simp only [Act.put, List.setIfInBounds_toArray, List.set_cons_zero, List.set_cons_succ]
        refine wpAnyH_ready (rs := [4]) (by kernel_rfl) (by simp) ?_
        refine AllReadyH.cons (o := ⟨none, .store 30 (.tmp 4) (.tmp 43), _, _, _, none⟩) rfl (fun K hK => ?_) AllReadyH.nil
        refine step_st 30 (.tmp 4) (.tmp 43) (by rfl) (by rfl) (by rfl) (f := 0) (by rfl) (l := (Cl.l ⟨true, n⟩)) (by rfl) h4 (by show 0 + 2 ≤ 2; omega) sizeCl (one_cl _) ?_
        intro x1 k4 G4
        have h4 := blk_all k4 (by show 2 ≤ 2; omega)
        have h5 := h5.keep (G4.block _ h5.lt (by intro e; injection e with e; omega))
        refine hK.out _ _ (hHeld.grow G4 (fun k hk => .inl (.inl (by injection hk with hk; exact hk.symm)))) (fun hHeld => ?_)
        clear hK K
        try simp only [Act.put, List.setIfInBounds_toArray, List.set_cons_zero, List.set_cons_succ]
        refine wpAnyH_ready (rs := [5]) (by kernel_rfl) (by simp) ?_
        refine AllReadyH.cons (o := ⟨none, .store 33 (.tmp 5) (.tmp 46), _, _, _, none⟩) rfl (fun K hK => ?_) AllReadyH.nil
        refine step_st 33 (.tmp 5) (.tmp 46) (by rfl) (by rfl) (by rfl) (f := 0) (by rfl) (l := rvs (false, n)) (by rfl) h5 (by show 0 + 2 ≤ 2; omega) sizeRs (one_rvs _) ?_
        intro x2 k5 G5
        have h5 := blk_all k5 (by show 2 ≤ 2; omega)
        have h4 := h4.keep (G5.block _ h4.lt (by intro e; injection e with e; omega))
        refine hK.out _ _ (hHeld.grow G5 (fun k hk => .inl (.inr (by injection hk with hk; exact hk.symm)))) (fun hHeld => ?_)
        clear hK K
        try simp only [Act.put, List.setIfInBounds_toArray, List.set_cons_zero, List.set_cons_succ]
        refine wpAnyH_done (by kernel_rfl) ?_ _
        refine NoPanic.normal ?_
        have hB := Ch.below_of hB hHeld (fun k hk => by rcases hk with rfl | rfl <;> omega) hB.size
        go_wp2
        refine ret_cell2 rfl rfl rfl h4.whole h5.whole Try.underlying30 rfl sizeCl Try.underlying33 rfl sizeRs rfl ?_
        exact ⟨by rw [Hd.out], hB⟩
  by_cases k5 : k = 5
  · subst k5
    have Hd : Hid (D = (zC, (t, n))) := HD.out
    go_upto_region 14 with (fail)
    have h4 := b4.drew
    have h5 := b5.drew
    refine wp_region_noPanic ?_
    refine wp_region_held_drew (S := Ch (fun y => y = g4 ∨ y = g5) W) (by kernel_rfl) ((Ch.refl _ _).drew) (fun hHeld => ?_)
    refine wpAnyH_take (i := 0) (oi := ⟨some 55, .build 30 #[], _, _, _, none⟩) (v := _) rfl (by kernel_rfl) (by kernel_rfl) (by kernel_rfl) (fun _ _ _ h => h) (y_bld (by rfl) 30 [] (by rfl) [] (by rfl) bldCz) (by assumption) ?_
    try simp only [Act.put, List.setIfInBounds_toArray, List.set_cons_zero, List.set_cons_succ]
    refine wpAnyH_take (i := 1) (oi := ⟨some 56, _, _, _, _, none⟩) (v := ?_) rfl (by kernel_rfl) (by kernel_rfl) (by kernel_rfl) (fun _ _ _ h => h) (Or.inl ⟨by rfl, ?_⟩) (by assumption) ?_
    rotate_left
    · intro w hSw; go_simp; try with_reducible rfl
    try simp only [Act.put, List.setIfInBounds_toArray, List.set_cons_zero, List.set_cons_succ]
    refine wpAnyH_take (i := 2) (oi := ⟨some 57, _, _, _, _, none⟩) (v := ?_) rfl (by kernel_rfl) (by kernel_rfl) (by kernel_rfl) (fun _ _ _ h => h) (Or.inl ⟨by rfl, ?_⟩) (by assumption) ?_
    rotate_left
    · intro w hSw; have hcw := X20.out w hSw; go_simp; try with_reducible rfl
    try simp only [Act.put, List.setIfInBounds_toArray, List.set_cons_zero, List.set_cons_succ]
    refine wpAnyH_take (i := 3) (oi := ⟨some 58, _, _, _, _, none⟩) (v := ?_) rfl (by kernel_rfl) (by kernel_rfl) (by kernel_rfl) (fun _ _ _ h => h) (Or.inl ⟨by rfl, ?_⟩) (by assumption) ?_
    rotate_left
    · intro w hSw; go_simp; try with_reducible rfl
    try simp only [Act.put, List.setIfInBounds_toArray, List.set_cons_zero, List.set_cons_succ]
    refine wpAnyH_take (i := 4) (oi := ⟨some 59, _, _, _, _, none⟩) (v := ?_) rfl (by kernel_rfl) (by kernel_rfl) (by kernel_rfl) (fun _ _ _ h => h) (Or.inl ⟨by rfl, ?_⟩) (by assumption) ?_
    rotate_left
    · intro w hSw; have hcw := X21.out w hSw; go_simp; try with_reducible rfl
    try simp only [Act.put, List.setIfInBounds_toArray, List.set_cons_zero, List.set_cons_succ]
    refine wpAnyH_take (i := 5) (oi := ⟨some 60, .build 33 #[(0, .tmp 57), (1, .tmp 59)], _, _, _, none⟩) (v := _) rfl (by kernel_rfl) (by kernel_rfl) (by kernel_rfl) (fun _ _ _ h => h) (y_bld (by rfl) 33 [(0, .tmp 57), (1, .tmp 59)] (by rfl) [(0, .bool t), (1, .int .i64 n)] (by rfl) (bldRv t n)) (by assumption) ?_
    try simp only [Act.put, List.setIfInBounds_toArray, List.set_cons_zero, List.set_cons_succ]
    refine wpAnyH_ready (rs := [6]) (by kernel_rfl) (by simp) ?_
    refine AllReadyH.cons (o := ⟨none, .store 30 (.tmp 4) (.tmp 55), _, _, _, none⟩) rfl (fun K hK => ?_) AllReadyH.nil
    refine step_st 30 (.tmp 4) (.tmp 55) (by rfl) (by rfl) (by rfl) (f := 0) (by rfl) (l := zC.l) (by rfl) h4 (by show 0 + 2 ≤ 2; omega) sizeCl (one_cl _) ?_
    intro x1 k4 G4
    have h4 := blk_all k4 (by show 2 ≤ 2; omega)
    have h5 := h5.keep (G4.block _ h5.lt (by intro e; injection e with e; omega))
    refine hK.out _ _ (hHeld.grow G4 (fun k hk => .inl (.inl (by injection hk with hk; exact hk.symm)))) (fun hHeld => ?_)
    clear hK K
    try simp only [Act.put, List.setIfInBounds_toArray, List.set_cons_zero, List.set_cons_succ]
    refine wpAnyH_ready (rs := [7]) (by kernel_rfl) (by simp) ?_
    refine AllReadyH.cons (o := ⟨none, .store 33 (.tmp 5) (.tmp 60), _, _, _, none⟩) rfl (fun K hK => ?_) AllReadyH.nil
    refine step_st 33 (.tmp 5) (.tmp 60) (by rfl) (by rfl) (by rfl) (f := 0) (by rfl) (l := rvs (t, n)) (by rfl) h5 (by show 0 + 2 ≤ 2; omega) sizeRs (one_rvs _) ?_
    intro x2 k5 G5
    have h5 := blk_all k5 (by show 2 ≤ 2; omega)
    have h4 := h4.keep (G5.block _ h4.lt (by intro e; injection e with e; omega))
    refine hK.out _ _ (hHeld.grow G5 (fun k hk => .inl (.inr (by injection hk with hk; exact hk.symm)))) (fun hHeld => ?_)
    clear hK K
    try simp only [Act.put, List.setIfInBounds_toArray, List.set_cons_zero, List.set_cons_succ]
    refine wpAnyH_done (by kernel_rfl) ?_ _
    refine NoPanic.normal ?_
    have hB := Ch.below_of hB hHeld (fun k hk => by rcases hk with rfl | rfl <;> omega) hB.size
    go_wp2
    refine ret_cell2 rfl rfl rfl h4.whole h5.whole Try.underlying30 rfl sizeCl Try.underlying33 rfl sizeRs rfl ?_
    exact ⟨by rw [Hd.out], hB⟩
  have Hd : Hid (D = (⟨t, n⟩, (false, 0))) := by show _ = _; rw [HD.out]; exact dn_bad _ _ (by show ¬ (1 ≤ k ∧ k ≤ 5); omega)
  go_wp2_with (first | refine wp_ld 30 (.tmp 2) rfl rfl rfl b2.whole Try.underlying30 rfl sizeCl ?_ | refine wp_bld 33 [] rfl rfl [] rfl bldRs ?_ | (refine wp_st 30 (.tmp 4) (.tmp 61) rfl rfl rfl (f := 0) rfl (l := Cl.l ⟨t, n⟩) rfl b4 (by show 0 + 2 ≤ 2; omega) sizeCl (one_cl _) ?_; intro x1 k4 G4; refine wp_st 33 (.tmp 5) (.tmp 62) rfl rfl rfl (f := 0) rfl (l := rvs (false, 0)) rfl (b5.keep (G4.block _ b5.lt (by intro e; injection e with e; omega))) (by show 0 + 2 ≤ 2; omega) sizeRs (one_rvs _) ?_; intro x2 k5 G5))
  have h4 := (blk_all k4 (by show 2 ≤ 2; omega)).keep (G5.block _ k4.lt (by intro e; injection e with e; omega))
  have h5 := blk_all k5 (by show 2 ≤ 2; omega)
  have hB := (hB.grown G4 hB.size (by intro k hk; injection hk with hk; omega)).grown G5 (Nat.le_trans hB.size G4.size) (by intro k hk; injection hk with hk; omega)
  refine ret_cell2 rfl rfl rfl h4.whole h5.whole Try.underlying30 rfl sizeCl Try.underlying33 rfl sizeRs rfl ?_
  exact ⟨by rw [Hd.out], hB⟩
end Go.Proofs.Ytfjgfaccfjdklaa
