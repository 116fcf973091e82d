/- U2: layer 14: contract of the document's Do. -/
import Derived.Test.YtjlncgikmpdgdaaU1
import Derived.Test.YtjlncgikmpdgdaaUV
namespace Go.V
open Go.RowKit
def rvs (r : Bool × Int) : List Value := [.bool r.1, .int .i64 r.2]
theorem one_rvs (r : Bool × Int) : ∀ v ∈ rvs r, v.oneCell' = true := by
  intro v hv
  simp only [rvs, List.mem_cons, List.not_mem_nil, or_false] at hv
  rcases hv with rfl | rfl <;> rfl
theorem one_okl (o : Ok) : ∀ v ∈ o.l, v.oneCell' = true := by
  intro v hv
  simp only [Ok.l, List.mem_cons, List.not_mem_nil, or_false] at hv
  rcases hv with rfl | rfl | rfl | rfl <;> rfl
def zCs : List Value := cvs (List.replicate 16 zC)
theorem len_zCs : zCs.length = 32 := by decide
theorem alloc4 (w : World) (tA tB tC tD : TypeId) (lA lB lC lD : List Value) : ∃ W, W = ((((w.alloc (.cells lA.toArray tA)).alloc (.cells lB.toArray tB)).alloc (.cells lC.toArray tC)).alloc (.cells lD.toArray tD)) ∧ Blk W w.heap.size tA lA ∧ Blk W (w.heap.size + 1) tB lB ∧ Blk W (w.heap.size + 2) tC lC ∧ Blk W (w.heap.size + 3) tD lD ∧ Below w.heap.size w W := by
  refine ⟨_, rfl, ?_⟩
  have a1 := Blk.new' w tA lA
  have B1 : Below w.heap.size w (w.alloc (.cells lA.toArray tA)) := (Below.refl _ _).alloc (Nat.le_refl _) _
  obtain ⟨w1, h1⟩ : ∃ x, x = w.alloc (.cells lA.toArray tA) := ⟨_, rfl⟩
  have s1 : w1.heap.size = w.heap.size + 1 := by rw [h1]; simp
  rw [← h1] at a1 B1 ⊢
  clear h1
  have a2 := Blk.new' w1 tB lB
  have B2 : Below w1.heap.size w1 (w1.alloc (.cells lB.toArray tB)) := (Below.refl _ _).alloc (Nat.le_refl _) _
  obtain ⟨w2, h2⟩ : ∃ x, x = w1.alloc (.cells lB.toArray tB) := ⟨_, rfl⟩
  have s2 : w2.heap.size = w1.heap.size + 1 := by rw [h2]; simp
  rw [← h2] at a2 B2 ⊢
  clear h2
  have a3 := Blk.new' w2 tC lC
  have B3 : Below w2.heap.size w2 (w2.alloc (.cells lC.toArray tC)) := (Below.refl _ _).alloc (Nat.le_refl _) _
  obtain ⟨w3, h3⟩ : ∃ x, x = w2.alloc (.cells lC.toArray tC) := ⟨_, rfl⟩
  have s3 : w3.heap.size = w2.heap.size + 1 := by rw [h3]; simp
  rw [← h3] at a3 B3 ⊢
  clear h3
  have a4 := Blk.new' w3 tD lD
  have B4 : Below w3.heap.size w3 (w3.alloc (.cells lD.toArray tD)) := (Below.refl _ _).alloc (Nat.le_refl _) _
  have e2 : w1.heap.size = w.heap.size + 1 := s1
  have e3 : w2.heap.size = w.heap.size + 2 := by omega
  have e4 : w3.heap.size = w.heap.size + 3 := by omega
  rw [← e2, ← e3, ← e4]
  exact ⟨((a1.below B2).below B3).below B4, (a2.below B3).below B4, a3.below B4, a4, ((B1.trans (B2.mono (by omega))).trans (B3.mono (by omega))).trans (B4.mono (by omega))⟩
theorem blk_all {w : World} {g : Nat} {t : TypeId} {cs l : List Value} (h : Blk w g t (cs.take 0 ++ l ++ cs.drop (0 + l.length))) (hl : cs.length ≤ l.length) : Blk w g t l := by
  rw [List.take_zero, List.nil_append, List.drop_eq_nil_of_le (by omega), List.append_nil] at h
  exact h
theorem set_same {s : List (Option Int)} {i : Nat} (h : i < s.length) : s.set i (s.getD i none) = s := by
  apply List.ext_getElem?
  intro j
  rw [List.getElem?_set]
  by_cases hij : i = j
  · subst hij
    rw [if_pos rfl, if_pos h, List.getD_eq_getElem?_getD, List.getElem?_eq_getElem h]
    rfl
  · rw [if_neg hij]
end Go.V
namespace Go.Proofs.Ytjlncgikmpdgdaa
open Go.RowKit Go.V
theorem zeroCs : (Try.prog.info? 24).map (·.zero) = some (some (.agg zCs.toArray)) := by kernel_rfl
theorem zeroRs : (Try.prog.info? 30).map (·.zero) = some (some (.agg (rvs (false, 0)).toArray)) := by kernel_rfl
theorem sizeRs : (Try.prog.info? 30).map (·.size) = some 2 := by kernel_rfl
theorem sizeOk : (Try.prog.info? 28).map (·.size) = some 4 := by kernel_rfl
theorem bldRs : ∀ W : World, (Instr.build 30 #[]).run Try.prog W = .ok (.agg (rvs (false, 0)).toArray) W := fun _ => by kernel_rfl
theorem bldRt (n : Int) : ∀ W : World, (Instr.build 30 #[(0, .bool true), (1, .int .i64 n)]).run Try.prog W = .ok (.agg (rvs (true, n)).toArray) W := fun _ => by kernel_rfl
theorem bldCl (n : Int) : ∀ W : World, (Instr.build 23 #[(0, .bool true), (1, .int .i64 n)]).run Try.prog W = .ok (.agg (Cl.l ⟨true, n⟩).toArray) W := fun _ => by kernel_rfl
theorem bldCz : ∀ W : World, (Instr.build 23 #[]).run Try.prog W = .ok (.agg zC.l.toArray) W := fun _ => by kernel_rfl
theorem nm_some (t : Bool) (n : Int) : (nmC ⟨t, n⟩).isSome = t := by cases t <;> rfl
/-- Do under way: the values' box g2, the answer's g8, the results' g4, g5 -/
structure DoS (w wx : World) (g2 g4 g5 g8 : Nat) (c : List Cl) (r : Bool × Int) : Prop where
  b2 : Blk wx g2 24 (cvs c)
  b8 : Blk wx g8 30 (rvs r)
  b4 : Blk wx g4 24 zCs
  b5 : Blk wx g5 30 (rvs (false, 0))
  B : Below w.heap.size w wx
  in_ : ClIn c
theorem DoS.el {w wx w' : World} {g2 g4 g5 g8 : Nat} {c : List Cl} {r : Bool × Int} (h : DoS w wx g2 g4 g5 g8 c r) {i : Nat} {x : Cl} (hi : i < 16) (hx : i64s x.n) (hb : Blk w' g2 24 ((cvs c).take (i * 2) ++ x.l ++ (cvs c).drop (i * 2 + x.l.length))) (hG : wx.grownBy w' (some g2)) (hw : w.heap.size ≤ g2) (h24 : g2 < g4) (h45 : g4 < g5) (h58 : g5 < g8) : DoS w w' g2 g4 g5 g8 (c.set i x) r := by
  have hk : ∀ g, g < wx.heap.size → g ≠ g2 → w'.heap[g]? = wx.heap[g]? := fun g hg hne => hG.block g hg (by intro e; injection e with e; exact hne e)
  refine ⟨?_, h.b8.keep (hk _ h.b8.lt (by omega)), h.b4.keep (hk _ h.b4.lt (by omega)), h.b5.keep (hk _ h.b5.lt (by omega)), h.B.grown hG h.B.size (by intro k hk; injection hk with hk; omega), in_set h.in_ i hx⟩
  rw [cvs_set c i x (by rw [h.in_.len]; exact hi), Nat.mul_comm 2 i]
  exact hb
theorem DoS.rs {w wx w' : World} {g2 g4 g5 g8 : Nat} {c : List Cl} {r q : Bool × Int} (h : DoS w wx g2 g4 g5 g8 c r) (hb : Blk w' g8 30 (rvs q)) (hG : wx.grownBy w' (some g8)) (hw : w.heap.size ≤ g2) (h24 : g2 < g4) (h45 : g4 < g5) (h58 : g5 < g8) : DoS w w' g2 g4 g5 g8 c q := by
  have hk : ∀ g, g < wx.heap.size → g ≠ g8 → w'.heap[g]? = wx.heap[g]? := fun g hg hne => hG.block g hg (by intro e; injection e with e; exact hne e)
  exact ⟨h.b2.keep (hk _ h.b2.lt (by omega)), hb, h.b4.keep (hk _ h.b4.lt (by omega)), h.b5.keep (hk _ h.b5.lt (by omega)), h.B.grown hG h.B.size (by intro k hk; injection hk with hk; omega), h.in_⟩
theorem sizeBo : (Try.prog.info? 4).map (·.size) = some 1 := by kernel_rfl
theorem sizeI6 : (Try.prog.info? 2).map (·.size) = some 1 := by kernel_rfl
set_option maxRecDepth 100000 in
set_option maxHeartbeats 16000000 in
theorem rdo14_any (c : List Cl) (o : Ok) (w : World) (hc : ClIn c) (ho : OkIn o) :
    Calls Try.prog 9 #[.agg (cvs c).toArray, .agg o.l.toArray] w fun e w' => ∃ c', e = .returned (.tuple #[.agg (cvs c').toArray, .agg (rvs (doK (nmF c) o).2).toArray]) ∧ ClIn c' ∧ nmF c' = (doK (nmF c) o).1 ∧ Below w.heap.size w w' := by
  obtain ⟨D, hD⟩ : ∃ D, D = doK (nmF c) o := ⟨_, rfl⟩
  rw [← hD]
  have HD := hid hD
  clear hD
  have lc : (cvs c).length = 32 := by rw [len_cvs, hc.len]
  have Lc := hid lc
  clear lc
  obtain ⟨W, hW, b2, b3, b4, b5, hB⟩ := alloc4 w 24 28 24 30 (cvs c) o.l zCs (rvs (false, 0))
  have b4 : Blk W (w.heap.size + 1 + 1) 24 zCs := b4
  have b5 : Blk W (w.heap.size + 1 + 1 + 1) 30 (rvs (false, 0)) := b5
  obtain ⟨k, y, a, b⟩ := o
  obtain ⟨hik, hiy, hia, hib⟩ := ho
  dsimp only at hik hiy hia hib
  go_enter Try.func9, Try.ntmps9
  go_wp2_with (first | (refine wp_new 24 rfl rfl zeroCs ?_; refine wp_new 30 rfl rfl zeroRs ?_; refine wp_stop ?_))
  rw [← hW]
  clear hW
  obtain ⟨g5, hg5⟩ : ∃ g, g = w.heap.size + 1 + 1 + 1 := ⟨_, rfl⟩
  rw [← hg5] at b5 ⊢
  obtain ⟨g4, hg4⟩ : ∃ g, g = w.heap.size + 1 + 1 := ⟨_, rfl⟩
  rw [← hg4] at b4 ⊢
  obtain ⟨g3, hg3⟩ : ∃ g, g = w.heap.size + 1 := ⟨_, rfl⟩
  rw [← hg3] at b3 ⊢
  obtain ⟨g2, hg2⟩ : ∃ g, g = w.heap.size := ⟨_, rfl⟩
  rw [← hg2] at b2 ⊢
  have hw2 : w.heap.size ≤ g2 := by omega
  have h23 : g2 < g3 := by omega
  have h34 : g3 < g4 := by omega
  have h45 : g4 < g5 := by omega
  clear hg2 hg3 hg4 hg5
  have c0 := b3.cellAt 0 _ rfl
  have c1 := b3.cellAt 1 _ rfl
  have c2 := b3.cellAt 2 _ rfl
  have c3 := b3.cellAt 3 _ rfl
  have hbad : ¬ goodK ⟨k, y, a, b⟩ → Hid (D = (nmF c, (false, 0))) := fun h => by show _ = _; rw [HD.out]; exact if_neg h
  have Hbad := hid hbad
  clear hbad
  refine wp_go ?_
  by_cases n1 : y < 0
  · have Hd := Hbad.out (by rintro ⟨⟨h1, h2⟩, h3, h4⟩; dsimp only at h1 h2 h3 h4; omega)
    go_wp2_with (first | refine wp_ld 24 (.tmp 2) rfl rfl rfl b2.whole Try.underlying24 rfl (by rw [Lc.out]; exact sizeCs) ?_ | refine wp_bld 30 [] rfl rfl [] rfl bldRs ?_ | (refine wp_st 24 (.tmp 4) (.tmp 27) rfl rfl rfl (f := 0) rfl (l := cvs c) rfl b4 (by rw [Lc.out, len_zCs]; omega) (by rw [Lc.out]; exact sizeCs) (one_cvs _) ?_; intro x1 k4 G4; refine wp_st 30 (.tmp 5) (.tmp 28) rfl rfl rfl (f := 0) rfl (l := rvs (false, 0)) rfl (b5.keep (G4.block _ b5.lt (by intro e; injection e with e; omega))) (by show 0 + 2 ≤ 2; omega) sizeRs (one_rvs _) ?_; intro x2 k5 G5; refine wp_stop ?_))
    have h4 := (blk_all k4 (by rw [Lc.out, len_zCs]; omega)).keep (G5.block _ k4.lt (by intro e; injection e with e; omega))
    have h5 := blk_all k5 (by show 2 ≤ 2; omega)
    have hB := (hB.grown G4 hB.size (by intro k hk; injection hk with hk; omega)).grown G5 (Nat.le_trans hB.size G4.size) (by intro k hk; injection hk with hk; omega)
    refine wp_go ?_
    go_wp2
    refine ret_cell2 rfl rfl rfl h4.whole h5.whole Try.underlying24 rfl (by rw [Lc.out]; exact sizeCs) Try.underlying30 rfl sizeRs rfl ?_
    exact ⟨c, by rw [Hd.out], hc, by rw [Hd.out], hB⟩
  by_cases n2 : 15 < y
  · have Hd := Hbad.out (by rintro ⟨⟨h1, h2⟩, h3, h4⟩; dsimp only at h1 h2 h3 h4; omega)
    go_wp2_with (first | refine wp_ld 24 (.tmp 2) rfl rfl rfl b2.whole Try.underlying24 rfl (by rw [Lc.out]; exact sizeCs) ?_ | refine wp_bld 30 [] rfl rfl [] rfl bldRs ?_ | (refine wp_st 24 (.tmp 4) (.tmp 27) rfl rfl rfl (f := 0) rfl (l := cvs c) rfl b4 (by rw [Lc.out, len_zCs]; omega) (by rw [Lc.out]; exact sizeCs) (one_cvs _) ?_; intro x1 k4 G4; refine wp_st 30 (.tmp 5) (.tmp 28) rfl rfl rfl (f := 0) rfl (l := rvs (false, 0)) rfl (b5.keep (G4.block _ b5.lt (by intro e; injection e with e; omega))) (by show 0 + 2 ≤ 2; omega) sizeRs (one_rvs _) ?_; intro x2 k5 G5; refine wp_stop ?_))
    have h4 := (blk_all k4 (by rw [Lc.out, len_zCs]; omega)).keep (G5.block _ k4.lt (by intro e; injection e with e; omega))
    have h5 := blk_all k5 (by show 2 ≤ 2; omega)
    have hB := (hB.grown G4 hB.size (by intro k hk; injection hk with hk; omega)).grown G5 (Nat.le_trans hB.size G4.size) (by intro k hk; injection hk with hk; omega)
    refine wp_go ?_
    go_wp2
    refine ret_cell2 rfl rfl rfl h4.whole h5.whole Try.underlying24 rfl (by rw [Lc.out]; exact sizeCs) Try.underlying30 rfl sizeRs rfl ?_
    exact ⟨c, by rw [Hd.out], hc, by rw [Hd.out], hB⟩
  by_cases n3 : k < 1
  · have Hd := Hbad.out (by rintro ⟨⟨h1, h2⟩, h3, h4⟩; dsimp only at h1 h2 h3 h4; omega)
    go_wp2_with (first | refine wp_ld 24 (.tmp 2) rfl rfl rfl b2.whole Try.underlying24 rfl (by rw [Lc.out]; exact sizeCs) ?_ | refine wp_bld 30 [] rfl rfl [] rfl bldRs ?_ | (refine wp_st 24 (.tmp 4) (.tmp 27) rfl rfl rfl (f := 0) rfl (l := cvs c) rfl b4 (by rw [Lc.out, len_zCs]; omega) (by rw [Lc.out]; exact sizeCs) (one_cvs _) ?_; intro x1 k4 G4; refine wp_st 30 (.tmp 5) (.tmp 28) rfl rfl rfl (f := 0) rfl (l := rvs (false, 0)) rfl (b5.keep (G4.block _ b5.lt (by intro e; injection e with e; omega))) (by show 0 + 2 ≤ 2; omega) sizeRs (one_rvs _) ?_; intro x2 k5 G5; refine wp_stop ?_))
    have h4 := (blk_all k4 (by rw [Lc.out, len_zCs]; omega)).keep (G5.block _ k4.lt (by intro e; injection e with e; omega))
    have h5 := blk_all k5 (by show 2 ≤ 2; omega)
    have hB := (hB.grown G4 hB.size (by intro k hk; injection hk with hk; omega)).grown G5 (Nat.le_trans hB.size G4.size) (by intro k hk; injection hk with hk; omega)
    refine wp_go ?_
    go_wp2
    refine ret_cell2 rfl rfl rfl h4.whole h5.whole Try.underlying24 rfl (by rw [Lc.out]; exact sizeCs) Try.underlying30 rfl sizeRs rfl ?_
    exact ⟨c, by rw [Hd.out], hc, by rw [Hd.out], hB⟩
  by_cases n4 : 5 < k
  · have Hd := Hbad.out (by rintro ⟨⟨h1, h2⟩, h3, h4⟩; dsimp only at h1 h2 h3 h4; omega)
    go_wp2_with (first | refine wp_ld 24 (.tmp 2) rfl rfl rfl b2.whole Try.underlying24 rfl (by rw [Lc.out]; exact sizeCs) ?_ | refine wp_bld 30 [] rfl rfl [] rfl bldRs ?_ | (refine wp_st 24 (.tmp 4) (.tmp 27) rfl rfl rfl (f := 0) rfl (l := cvs c) rfl b4 (by rw [Lc.out, len_zCs]; omega) (by rw [Lc.out]; exact sizeCs) (one_cvs _) ?_; intro x1 k4 G4; refine wp_st 30 (.tmp 5) (.tmp 28) rfl rfl rfl (f := 0) rfl (l := rvs (false, 0)) rfl (b5.keep (G4.block _ b5.lt (by intro e; injection e with e; omega))) (by show 0 + 2 ≤ 2; omega) sizeRs (one_rvs _) ?_; intro x2 k5 G5; refine wp_stop ?_))
    have h4 := (blk_all k4 (by rw [Lc.out, len_zCs]; omega)).keep (G5.block _ k4.lt (by intro e; injection e with e; omega))
    have h5 := blk_all k5 (by show 2 ≤ 2; omega)
    have hB := (hB.grown G4 hB.size (by intro k hk; injection hk with hk; omega)).grown G5 (Nat.le_trans hB.size G4.size) (by intro k hk; injection hk with hk; omega)
    refine wp_go ?_
    go_wp2
    refine ret_cell2 rfl rfl rfl h4.whole h5.whole Try.underlying24 rfl (by rw [Lc.out]; exact sizeCs) Try.underlying30 rfl sizeRs rfl ?_
    exact ⟨c, by rw [Hd.out], hc, by rw [Hd.out], hB⟩
  have hg : goodK ⟨k, y, a, b⟩ := ⟨⟨by show 0 ≤ y; omega, by show y ≤ 15; omega⟩, by show 1 ≤ k; omega, by show k ≤ 5; omega⟩
  obtain ⟨i, rfl⟩ : ∃ i : Nat, y = (i : Int) := ⟨y.toNat, by omega⟩
  have hi : i < 16 := by omega
  obtain ⟨x, hx⟩ : ∃ x, c[i]? = some x := ⟨_, List.getElem?_eq_getElem (by rw [hc.len]; exact hi)⟩
  have hxn := hc.n x (List.mem_of_getElem? hx)
  obtain ⟨t, n⟩ := x
  obtain ⟨e1, e2⟩ := cvs_at c i _ hx
  have d0 : W.cell? ⟨g2, i * 2, none⟩ = some (.bool t) := b2.cellAt _ _ (by rw [Nat.mul_comm]; exact e1)
  have d1 : W.cell? ⟨g2, i * 2 + 1, none⟩ = some (.int .i64 n) := b2.cellAt _ _ (by rw [Nat.mul_comm]; exact e2)
  have HD : Hid (D = ((nmF c).set i (newK ⟨k, i, a, b⟩ (nmC ⟨t, n⟩)), resK ⟨k, i, a, b⟩ (nmC ⟨t, n⟩))) := by
    show _ = _
    rw [HD.out]
    unfold doK
    rw [if_pos hg, show ((⟨k, (i : Int), a, b⟩ : Ok).y.toNat) = i from Int.toNat_natCast i, nmF_at hx]
  obtain ⟨m, hm⟩ : ∃ m, m = (nmC ⟨t, n⟩).getD 0 := ⟨_, rfl⟩
  have hmt : m = if t = true then n else 0 := by rw [hm]; unfold nmC; cases t <;> rfl
  have hmi : i64s m := by rw [hmt]; split; exact hxn; exact ⟨by omega, by omega⟩
  have Hm := hid hm
  have hsm : Hid ((nmF c).set i (nmC ⟨t, n⟩) = nmF c) := by
    show _ = _
    rw [← nmF_at hx]
    exact set_same (by unfold nmF; rw [List.length_map, hc.len]; exact hi)
  clear hx hxn e1 e2 hm hg Hbad
  go_upto_if 34 with (first | refine wp_ixp 24 (.tmp 2) (.tmp 30) rfl rfl rfl rfl Try.underlying24 hi sizeCl ?_)
  go_cut [7] (fun s7 wx => s7 = .int .i64 m ∧ wx = W)
  case first =>
    cases t
    · have hm2 : m = 0 := hmt
      clear hmt
      subst hm2
      go_wp2
      go_meet
      exact ⟨rfl, rfl⟩
    · have hm2 : m = n := hmt
      clear hmt
      subst hm2
      go_wp2_with (first | refine wp_ixp 24 (.tmp 2) (.tmp 36) rfl rfl rfl rfl Try.underlying24 hi sizeCl ?_)
      go_meet
      exact ⟨rfl, rfl⟩
  case rest =>
  obtain ⟨rfl, rfl⟩ := hcut
  clear hmt d0 d1
  go_wp2_with (first | refine wp_bld 30 [(0, .const (.bool true)), (1, .tmp 40)] rfl rfl [(0, .bool true), (1, .int .i64 m)] rfl (bldRt m) ?_ | (refine wp_newst 30 8 (.tmp 41) rfl rfl rfl rfl rfl rfl zeroRs (l := rvs (true, m)) rfl rfl sizeRs (one_rvs _) (by simp [Act.put]) ?_; intro w8 b8 B8 s8; refine wp_stop ?_))
  have hS : DoS w w8 g2 g4 g5 wc.heap.size c (true, m) := ⟨b2.below B8, b8, b4.below B8, b5.below B8, hB.trans (B8.mono hB.size), hc⟩
  have hb3 := b3.below B8
  obtain ⟨g8, hg8⟩ : ∃ g, g = wc.heap.size := ⟨_, rfl⟩
  have h58 : g5 < g8 := by have := b5.lt; omega
  rw [← hg8] at hS ⊢
  clear hg8 b8 B8 s8 b2 b3 b4 b5 hB c0 c1 c2 c3 Lc
  have Lc := hid (show (cvs c).length = 32 by rw [len_cvs, hc.len])
  have c0 := hb3.cellAt 0 _ rfl
  have c1 := hb3.cellAt 1 _ rfl
  have c2 := hb3.cellAt 2 _ rfl
  have c3 := hb3.cellAt 3 _ rfl

  refine wp_go ?_
  have hk : k = 1 ∨ k = 2 ∨ k = 3 ∨ k = 4 ∨ k = 5 := by omega
  clear n1 n2 n3 n4
  rcases hk with rfl | rfl | rfl | rfl | rfl
  · go_wp2_with (first | (refine wp_st1 4 (.tmp 53) (.tmp 52) rfl rfl rfl (f := 0) rfl (v := .bool t) rfl hS.b8 (by show 0 < 2; omega) sizeBo rfl rfl ?_; intro x1 kE GE; refine wp_stop ?_))
    have hS := hS.rs (q := (t, m)) kE GE hw2 (by omega) h45 h58
    have hfin : ∃ c', DoS w x1 g2 g4 g5 g8 c' D.2 ∧ nmF c' = D.1 := ⟨c, by rw [HD.out]; show DoS _ _ _ _ _ _ _ ((nmC ⟨t, n⟩).isSome, (nmC ⟨t, n⟩).getD 0); rw [← Hm.out, nm_some]; exact hS, by rw [HD.out]; exact hsm.out.symm⟩
    obtain ⟨c', hS, hnm⟩ := hfin
    have Hnm := hid hnm
    have Hin := hid hS.in_
    have Lc := hid (show (cvs c').length = 32 by rw [len_cvs, hS.in_.len])
    clear hnm
    refine wp_go ?_
    go_upto_region 23 with (fail)
    have hBd : Below x1.heap.size x1 x1.drew := (Below.refl _ _).drew
    obtain ⟨wd, hwd⟩ : ∃ x, x = x1.drew := ⟨_, rfl⟩
    rw [← hwd] at hBd
    have h2 := hS.b2.below hBd
    have h8 := hS.b8.below hBd
    have h4 := hS.b4.below hBd
    have h5 := hS.b5.below hBd
    have hB := hS.B.trans (hBd.mono hS.B.size)
    clear hS hBd
    refine wp_region_noPanic ?_
    refine wp_region_any (by kernel_rfl) ?_
    change wpAny _ _ _ _ _ _ _ (World.drew _)
    rw [← hwd]
    clear hwd
    -- T
    refine wpAny_ready (rs := [0, 1]) (by kernel_rfl) (by simp) ?_
    refine AllReady.cons (o := ⟨some 98, .load 24 (.tmp 2), _, _, _, none⟩) rfl (fun K hK => ?_) ?_
    · refine step_ld 24 (.tmp 2) (by rfl) (by rfl) (by rfl) h2.whole Try.underlying24 rfl (by rw [Lc.out]; exact sizeCs) ?_
      refine hK _ _ ?_
      clear hK K
      try simp only [Act.put, List.setIfInBounds_toArray, List.set_cons_zero, List.set_cons_succ]
      refine wpAny_ready (rs := [1, 2]) (by kernel_rfl) (by simp) ?_
      refine AllReady.cons (o := ⟨some 99, .load 30 (.tmp 8), _, _, _, none⟩) rfl (fun K hK => ?_) ?_
      · refine step_ld 30 (.tmp 8) (by rfl) (by rfl) (by rfl) h8.whole Try.underlying30 rfl sizeRs ?_
        refine hK _ _ ?_
        clear hK K
        try simp only [Act.put, List.setIfInBounds_toArray, List.set_cons_zero, List.set_cons_succ]
        refine wpAny_ready (rs := [2]) (by kernel_rfl) (by simp) ?_
        refine AllReady.cons (o := ⟨none, .store 24 (.tmp 4) (.tmp 98), _, _, _, none⟩) rfl (fun K hK => ?_) AllReady.nil
        refine step_st 24 (.tmp 4) (.tmp 98) (by rfl) (by rfl) (by rfl) (f := 0) (by rfl) (l := cvs c') (by rfl) h4 (by rw [Lc.out, len_zCs]; omega) (by rw [Lc.out]; exact sizeCs) (one_cvs _) ?_
        intro x1 k4 G4
        have h4 := blk_all k4 (by rw [Lc.out, len_zCs]; omega)
        have h8 := h8.keep (G4.block _ h8.lt (by intro e; injection e with e; omega))
        have h2 := h2.keep (G4.block _ h2.lt (by intro e; injection e with e; omega))
        have h5 := h5.keep (G4.block _ h5.lt (by intro e; injection e with e; omega))
        have hB := hB.grown G4 hB.size (by intro k hk; injection hk with hk; omega)
        refine hK _ _ ?_
        clear hK K
        try simp only [Act.put, List.setIfInBounds_toArray, List.set_cons_zero, List.set_cons_succ]
        refine wpAny_ready (rs := [3]) (by kernel_rfl) (by simp) ?_
        refine AllReady.cons (o := ⟨none, .store 30 (.tmp 5) (.tmp 99), _, _, _, none⟩) rfl (fun K hK => ?_) AllReady.nil
        refine step_st 30 (.tmp 5) (.tmp 99) (by rfl) (by rfl) (by rfl) (f := 0) (by rfl) (l := rvs D.2) (by rfl) h5 (by show 0 + 2 ≤ 2; omega) sizeRs (one_rvs _) ?_
        intro x2 k5 G5
        have h5 := blk_all k5 (by show 2 ≤ 2; omega)
        have h8 := h8.keep (G5.block _ h8.lt (by intro e; injection e with e; omega))
        have h2 := h2.keep (G5.block _ h2.lt (by intro e; injection e with e; omega))
        have h4 := h4.keep (G5.block _ h4.lt (by intro e; injection e with e; omega))
        have hB := hB.grown G5 hB.size (by intro k hk; injection hk with hk; omega)
        refine hK _ _ ?_
        clear hK K
        try simp only [Act.put, List.setIfInBounds_toArray, List.set_cons_zero, List.set_cons_succ]
        refine wpAny_done (by kernel_rfl) ?_ _
        refine NoPanic.normal ?_
        go_wp2
        refine ret_cell2 rfl rfl rfl h4.whole h5.whole Try.underlying24 rfl (by rw [Lc.out]; exact sizeCs) Try.underlying30 rfl sizeRs rfl ?_
        exact ⟨c', rfl, Hin.out, Hnm.out, hB⟩
      refine AllReady.cons (o := ⟨none, .store 24 (.tmp 4) (.tmp 98), _, _, _, none⟩) rfl (fun K hK => ?_) AllReady.nil
      refine step_st 24 (.tmp 4) (.tmp 98) (by rfl) (by rfl) (by rfl) (f := 0) (by rfl) (l := cvs c') (by rfl) h4 (by rw [Lc.out, len_zCs]; omega) (by rw [Lc.out]; exact sizeCs) (one_cvs _) ?_
      intro x1 k4 G4
      have h4 := blk_all k4 (by rw [Lc.out, len_zCs]; omega)
      have h8 := h8.keep (G4.block _ h8.lt (by intro e; injection e with e; omega))
      have h2 := h2.keep (G4.block _ h2.lt (by intro e; injection e with e; omega))
      have h5 := h5.keep (G4.block _ h5.lt (by intro e; injection e with e; omega))
      have hB := hB.grown G4 hB.size (by intro k hk; injection hk with hk; omega)
      refine hK _ _ ?_
      clear hK K
      try simp only [Act.put, List.setIfInBounds_toArray, List.set_cons_zero, List.set_cons_succ]
      refine wpAny_ready (rs := [1]) (by kernel_rfl) (by simp) ?_
      refine AllReady.cons (o := ⟨some 99, .load 30 (.tmp 8), _, _, _, none⟩) rfl (fun K hK => ?_) AllReady.nil
      refine step_ld 30 (.tmp 8) (by rfl) (by rfl) (by rfl) h8.whole Try.underlying30 rfl sizeRs ?_
      refine hK _ _ ?_
      clear hK K
      try simp only [Act.put, List.setIfInBounds_toArray, List.set_cons_zero, List.set_cons_succ]
      refine wpAny_ready (rs := [3]) (by kernel_rfl) (by simp) ?_
      refine AllReady.cons (o := ⟨none, .store 30 (.tmp 5) (.tmp 99), _, _, _, none⟩) rfl (fun K hK => ?_) AllReady.nil
      refine step_st 30 (.tmp 5) (.tmp 99) (by rfl) (by rfl) (by rfl) (f := 0) (by rfl) (l := rvs D.2) (by rfl) h5 (by show 0 + 2 ≤ 2; omega) sizeRs (one_rvs _) ?_
      intro x2 k5 G5
      have h5 := blk_all k5 (by show 2 ≤ 2; omega)
      have h8 := h8.keep (G5.block _ h8.lt (by intro e; injection e with e; omega))
      have h2 := h2.keep (G5.block _ h2.lt (by intro e; injection e with e; omega))
      have h4 := h4.keep (G5.block _ h4.lt (by intro e; injection e with e; omega))
      have hB := hB.grown G5 hB.size (by intro k hk; injection hk with hk; omega)
      refine hK _ _ ?_
      clear hK K
      try simp only [Act.put, List.setIfInBounds_toArray, List.set_cons_zero, List.set_cons_succ]
      refine wpAny_done (by kernel_rfl) ?_ _
      refine NoPanic.normal ?_
      go_wp2
      refine ret_cell2 rfl rfl rfl h4.whole h5.whole Try.underlying24 rfl (by rw [Lc.out]; exact sizeCs) Try.underlying30 rfl sizeRs rfl ?_
      exact ⟨c', rfl, Hin.out, Hnm.out, hB⟩
    refine AllReady.cons (o := ⟨some 99, .load 30 (.tmp 8), _, _, _, none⟩) rfl (fun K hK => ?_) AllReady.nil
    refine step_ld 30 (.tmp 8) (by rfl) (by rfl) (by rfl) h8.whole Try.underlying30 rfl sizeRs ?_
    refine hK _ _ ?_
    clear hK K
    try simp only [Act.put, List.setIfInBounds_toArray, List.set_cons_zero, List.set_cons_succ]
    refine wpAny_ready (rs := [0]) (by kernel_rfl) (by simp) ?_
    refine AllReady.cons (o := ⟨some 98, .load 24 (.tmp 2), _, _, _, none⟩) rfl (fun K hK => ?_) AllReady.nil
    refine step_ld 24 (.tmp 2) (by rfl) (by rfl) (by rfl) h2.whole Try.underlying24 rfl (by rw [Lc.out]; exact sizeCs) ?_
    refine hK _ _ ?_
    clear hK K
    try simp only [Act.put, List.setIfInBounds_toArray, List.set_cons_zero, List.set_cons_succ]
    refine wpAny_ready (rs := [2]) (by kernel_rfl) (by simp) ?_
    refine AllReady.cons (o := ⟨none, .store 24 (.tmp 4) (.tmp 98), _, _, _, none⟩) rfl (fun K hK => ?_) AllReady.nil
    refine step_st 24 (.tmp 4) (.tmp 98) (by rfl) (by rfl) (by rfl) (f := 0) (by rfl) (l := cvs c') (by rfl) h4 (by rw [Lc.out, len_zCs]; omega) (by rw [Lc.out]; exact sizeCs) (one_cvs _) ?_
    intro x1 k4 G4
    have h4 := blk_all k4 (by rw [Lc.out, len_zCs]; omega)
    have h8 := h8.keep (G4.block _ h8.lt (by intro e; injection e with e; omega))
    have h2 := h2.keep (G4.block _ h2.lt (by intro e; injection e with e; omega))
    have h5 := h5.keep (G4.block _ h5.lt (by intro e; injection e with e; omega))
    have hB := hB.grown G4 hB.size (by intro k hk; injection hk with hk; omega)
    refine hK _ _ ?_
    clear hK K
    try simp only [Act.put, List.setIfInBounds_toArray, List.set_cons_zero, List.set_cons_succ]
    refine wpAny_ready (rs := [3]) (by kernel_rfl) (by simp) ?_
    refine AllReady.cons (o := ⟨none, .store 30 (.tmp 5) (.tmp 99), _, _, _, none⟩) rfl (fun K hK => ?_) AllReady.nil
    refine step_st 30 (.tmp 5) (.tmp 99) (by rfl) (by rfl) (by rfl) (f := 0) (by rfl) (l := rvs D.2) (by rfl) h5 (by show 0 + 2 ≤ 2; omega) sizeRs (one_rvs _) ?_
    intro x2 k5 G5
    have h5 := blk_all k5 (by show 2 ≤ 2; omega)
    have h8 := h8.keep (G5.block _ h8.lt (by intro e; injection e with e; omega))
    have h2 := h2.keep (G5.block _ h2.lt (by intro e; injection e with e; omega))
    have h4 := h4.keep (G5.block _ h4.lt (by intro e; injection e with e; omega))
    have hB := hB.grown G5 hB.size (by intro k hk; injection hk with hk; omega)
    refine hK _ _ ?_
    clear hK K
    try simp only [Act.put, List.setIfInBounds_toArray, List.set_cons_zero, List.set_cons_succ]
    refine wpAny_done (by kernel_rfl) ?_ _
    refine NoPanic.normal ?_
    go_wp2
    refine ret_cell2 rfl rfl rfl h4.whole h5.whole Try.underlying24 rfl (by rw [Lc.out]; exact sizeCs) Try.underlying30 rfl sizeRs rfl ?_
    exact ⟨c', rfl, Hin.out, Hnm.out, hB⟩
    -- T end
  · go_wp2_with (first | refine wp_bld 23 [(0, .const (.bool true)), (1, .tmp 59)] rfl rfl [(0, .bool true), (1, .int .i64 a)] rfl (bldCl a) ?_ | refine wp_ixp 24 (.tmp 2) (.tmp 57) rfl rfl rfl rfl Try.underlying24 hi sizeCl ?_ | (refine wp_st 23 (.tmp 61) (.tmp 60) rfl rfl rfl (f := i * 2) (by rw [Nat.zero_add]; rfl) (l := Cl.l ⟨true, a⟩) rfl hS.b2 (by rw [Lc.out]; show i * 2 + 2 ≤ 32; omega) sizeCl (by intro v hv; simp only [Cl.l, List.mem_cons, List.not_mem_nil, or_false] at hv; rcases hv with rfl | rfl <;> rfl) ?_; intro x1 kE GE; refine wp_stop ?_))
    have hS := hS.el hi (x := ⟨true, a⟩) hia kE GE hw2 (by omega) h45 h58
    have hfin : ∃ c', DoS w x1 g2 g4 g5 g8 c' D.2 ∧ nmF c' = D.1 := ⟨_, by rw [HD.out]; show DoS _ _ _ _ _ _ _ (true, (nmC ⟨t, n⟩).getD 0); rw [← Hm.out]; exact hS, by rw [HD.out, nm_set]; rfl⟩
    obtain ⟨c', hS, hnm⟩ := hfin
    have Hnm := hid hnm
    have Hin := hid hS.in_
    have Lc := hid (show (cvs c').length = 32 by rw [len_cvs, hS.in_.len])
    clear hnm
    refine wp_go ?_
    go_upto_region 23 with (fail)
    have hBd : Below x1.heap.size x1 x1.drew := (Below.refl _ _).drew
    obtain ⟨wd, hwd⟩ : ∃ x, x = x1.drew := ⟨_, rfl⟩
    rw [← hwd] at hBd
    have h2 := hS.b2.below hBd
    have h8 := hS.b8.below hBd
    have h4 := hS.b4.below hBd
    have h5 := hS.b5.below hBd
    have hB := hS.B.trans (hBd.mono hS.B.size)
    clear hS hBd
    refine wp_region_noPanic ?_
    refine wp_region_any (by kernel_rfl) ?_
    change wpAny _ _ _ _ _ _ _ (World.drew _)
    rw [← hwd]
    clear hwd
    -- T
    refine wpAny_ready (rs := [0, 1]) (by kernel_rfl) (by simp) ?_
    refine AllReady.cons (o := ⟨some 98, .load 24 (.tmp 2), _, _, _, none⟩) rfl (fun K hK => ?_) ?_
    · refine step_ld 24 (.tmp 2) (by rfl) (by rfl) (by rfl) h2.whole Try.underlying24 rfl (by rw [Lc.out]; exact sizeCs) ?_
      refine hK _ _ ?_
      clear hK K
      try simp only [Act.put, List.setIfInBounds_toArray, List.set_cons_zero, List.set_cons_succ]
      refine wpAny_ready (rs := [1, 2]) (by kernel_rfl) (by simp) ?_
      refine AllReady.cons (o := ⟨some 99, .load 30 (.tmp 8), _, _, _, none⟩) rfl (fun K hK => ?_) ?_
      · refine step_ld 30 (.tmp 8) (by rfl) (by rfl) (by rfl) h8.whole Try.underlying30 rfl sizeRs ?_
        refine hK _ _ ?_
        clear hK K
        try simp only [Act.put, List.setIfInBounds_toArray, List.set_cons_zero, List.set_cons_succ]
        refine wpAny_ready (rs := [2]) (by kernel_rfl) (by simp) ?_
        refine AllReady.cons (o := ⟨none, .store 24 (.tmp 4) (.tmp 98), _, _, _, none⟩) rfl (fun K hK => ?_) AllReady.nil
        refine step_st 24 (.tmp 4) (.tmp 98) (by rfl) (by rfl) (by rfl) (f := 0) (by rfl) (l := cvs c') (by rfl) h4 (by rw [Lc.out, len_zCs]; omega) (by rw [Lc.out]; exact sizeCs) (one_cvs _) ?_
        intro x1 k4 G4
        have h4 := blk_all k4 (by rw [Lc.out, len_zCs]; omega)
        have h8 := h8.keep (G4.block _ h8.lt (by intro e; injection e with e; omega))
        have h2 := h2.keep (G4.block _ h2.lt (by intro e; injection e with e; omega))
        have h5 := h5.keep (G4.block _ h5.lt (by intro e; injection e with e; omega))
        have hB := hB.grown G4 hB.size (by intro k hk; injection hk with hk; omega)
        refine hK _ _ ?_
        clear hK K
        try simp only [Act.put, List.setIfInBounds_toArray, List.set_cons_zero, List.set_cons_succ]
        refine wpAny_ready (rs := [3]) (by kernel_rfl) (by simp) ?_
        refine AllReady.cons (o := ⟨none, .store 30 (.tmp 5) (.tmp 99), _, _, _, none⟩) rfl (fun K hK => ?_) AllReady.nil
        refine step_st 30 (.tmp 5) (.tmp 99) (by rfl) (by rfl) (by rfl) (f := 0) (by rfl) (l := rvs D.2) (by rfl) h5 (by show 0 + 2 ≤ 2; omega) sizeRs (one_rvs _) ?_
        intro x2 k5 G5
        have h5 := blk_all k5 (by show 2 ≤ 2; omega)
        have h8 := h8.keep (G5.block _ h8.lt (by intro e; injection e with e; omega))
        have h2 := h2.keep (G5.block _ h2.lt (by intro e; injection e with e; omega))
        have h4 := h4.keep (G5.block _ h4.lt (by intro e; injection e with e; omega))
        have hB := hB.grown G5 hB.size (by intro k hk; injection hk with hk; omega)
        refine hK _ _ ?_
        clear hK K
        try simp only [Act.put, List.setIfInBounds_toArray, List.set_cons_zero, List.set_cons_succ]
        refine wpAny_done (by kernel_rfl) ?_ _
        refine NoPanic.normal ?_
        go_wp2
        refine ret_cell2 rfl rfl rfl h4.whole h5.whole Try.underlying24 rfl (by rw [Lc.out]; exact sizeCs) Try.underlying30 rfl sizeRs rfl ?_
        exact ⟨c', rfl, Hin.out, Hnm.out, hB⟩
      refine AllReady.cons (o := ⟨none, .store 24 (.tmp 4) (.tmp 98), _, _, _, none⟩) rfl (fun K hK => ?_) AllReady.nil
      refine step_st 24 (.tmp 4) (.tmp 98) (by rfl) (by rfl) (by rfl) (f := 0) (by rfl) (l := cvs c') (by rfl) h4 (by rw [Lc.out, len_zCs]; omega) (by rw [Lc.out]; exact sizeCs) (one_cvs _) ?_
      intro x1 k4 G4
      have h4 := blk_all k4 (by rw [Lc.out, len_zCs]; omega)
      have h8 := h8.keep (G4.block _ h8.lt (by intro e; injection e with e; omega))
      have h2 := h2.keep (G4.block _ h2.lt (by intro e; injection e with e; omega))
      have h5 := h5.keep (G4.block _ h5.lt (by intro e; injection e with e; omega))
      have hB := hB.grown G4 hB.size (by intro k hk; injection hk with hk; omega)
      refine hK _ _ ?_
      clear hK K
      try simp only [Act.put, List.setIfInBounds_toArray, List.set_cons_zero, List.set_cons_succ]
      refine wpAny_ready (rs := [1]) (by kernel_rfl) (by simp) ?_
      refine AllReady.cons (o := ⟨some 99, .load 30 (.tmp 8), _, _, _, none⟩) rfl (fun K hK => ?_) AllReady.nil
      refine step_ld 30 (.tmp 8) (by rfl) (by rfl) (by rfl) h8.whole Try.underlying30 rfl sizeRs ?_
      refine hK _ _ ?_
      clear hK K
      try simp only [Act.put, List.setIfInBounds_toArray, List.set_cons_zero, List.set_cons_succ]
      refine wpAny_ready (rs := [3]) (by kernel_rfl) (by simp) ?_
      refine AllReady.cons (o := ⟨none, .store 30 (.tmp 5) (.tmp 99), _, _, _, none⟩) rfl (fun K hK => ?_) AllReady.nil
      refine step_st 30 (.tmp 5) (.tmp 99) (by rfl) (by rfl) (by rfl) (f := 0) (by rfl) (l := rvs D.2) (by rfl) h5 (by show 0 + 2 ≤ 2; omega) sizeRs (one_rvs _) ?_
      intro x2 k5 G5
      have h5 := blk_all k5 (by show 2 ≤ 2; omega)
      have h8 := h8.keep (G5.block _ h8.lt (by intro e; injection e with e; omega))
      have h2 := h2.keep (G5.block _ h2.lt (by intro e; injection e with e; omega))
      have h4 := h4.keep (G5.block _ h4.lt (by intro e; injection e with e; omega))
      have hB := hB.grown G5 hB.size (by intro k hk; injection hk with hk; omega)
      refine hK _ _ ?_
      clear hK K
      try simp only [Act.put, List.setIfInBounds_toArray, List.set_cons_zero, List.set_cons_succ]
      refine wpAny_done (by kernel_rfl) ?_ _
      refine NoPanic.normal ?_
      go_wp2
      refine ret_cell2 rfl rfl rfl h4.whole h5.whole Try.underlying24 rfl (by rw [Lc.out]; exact sizeCs) Try.underlying30 rfl sizeRs rfl ?_
      exact ⟨c', rfl, Hin.out, Hnm.out, hB⟩
    refine AllReady.cons (o := ⟨some 99, .load 30 (.tmp 8), _, _, _, none⟩) rfl (fun K hK => ?_) AllReady.nil
    refine step_ld 30 (.tmp 8) (by rfl) (by rfl) (by rfl) h8.whole Try.underlying30 rfl sizeRs ?_
    refine hK _ _ ?_
    clear hK K
    try simp only [Act.put, List.setIfInBounds_toArray, List.set_cons_zero, List.set_cons_succ]
    refine wpAny_ready (rs := [0]) (by kernel_rfl) (by simp) ?_
    refine AllReady.cons (o := ⟨some 98, .load 24 (.tmp 2), _, _, _, none⟩) rfl (fun K hK => ?_) AllReady.nil
    refine step_ld 24 (.tmp 2) (by rfl) (by rfl) (by rfl) h2.whole Try.underlying24 rfl (by rw [Lc.out]; exact sizeCs) ?_
    refine hK _ _ ?_
    clear hK K
    try simp only [Act.put, List.setIfInBounds_toArray, List.set_cons_zero, List.set_cons_succ]
    refine wpAny_ready (rs := [2]) (by kernel_rfl) (by simp) ?_
    refine AllReady.cons (o := ⟨none, .store 24 (.tmp 4) (.tmp 98), _, _, _, none⟩) rfl (fun K hK => ?_) AllReady.nil
    refine step_st 24 (.tmp 4) (.tmp 98) (by rfl) (by rfl) (by rfl) (f := 0) (by rfl) (l := cvs c') (by rfl) h4 (by rw [Lc.out, len_zCs]; omega) (by rw [Lc.out]; exact sizeCs) (one_cvs _) ?_
    intro x1 k4 G4
    have h4 := blk_all k4 (by rw [Lc.out, len_zCs]; omega)
    have h8 := h8.keep (G4.block _ h8.lt (by intro e; injection e with e; omega))
    have h2 := h2.keep (G4.block _ h2.lt (by intro e; injection e with e; omega))
    have h5 := h5.keep (G4.block _ h5.lt (by intro e; injection e with e; omega))
    have hB := hB.grown G4 hB.size (by intro k hk; injection hk with hk; omega)
    refine hK _ _ ?_
    clear hK K
    try simp only [Act.put, List.setIfInBounds_toArray, List.set_cons_zero, List.set_cons_succ]
    refine wpAny_ready (rs := [3]) (by kernel_rfl) (by simp) ?_
    refine AllReady.cons (o := ⟨none, .store 30 (.tmp 5) (.tmp 99), _, _, _, none⟩) rfl (fun K hK => ?_) AllReady.nil
    refine step_st 30 (.tmp 5) (.tmp 99) (by rfl) (by rfl) (by rfl) (f := 0) (by rfl) (l := rvs D.2) (by rfl) h5 (by show 0 + 2 ≤ 2; omega) sizeRs (one_rvs _) ?_
    intro x2 k5 G5
    have h5 := blk_all k5 (by show 2 ≤ 2; omega)
    have h8 := h8.keep (G5.block _ h8.lt (by intro e; injection e with e; omega))
    have h2 := h2.keep (G5.block _ h2.lt (by intro e; injection e with e; omega))
    have h4 := h4.keep (G5.block _ h4.lt (by intro e; injection e with e; omega))
    have hB := hB.grown G5 hB.size (by intro k hk; injection hk with hk; omega)
    refine hK _ _ ?_
    clear hK K
    try simp only [Act.put, List.setIfInBounds_toArray, List.set_cons_zero, List.set_cons_succ]
    refine wpAny_done (by kernel_rfl) ?_ _
    refine NoPanic.normal ?_
    go_wp2
    refine ret_cell2 rfl rfl rfl h4.whole h5.whole Try.underlying24 rfl (by rw [Lc.out]; exact sizeCs) Try.underlying30 rfl sizeRs rfl ?_
    exact ⟨c', rfl, Hin.out, Hnm.out, hB⟩
    -- T end
  · have hwr : IntKind.i64.wrap (m + a) = w64 (m + a) := rfl
    go_wp2_with (first | (refine wp_st1 2 (.tmp 68) (.tmp 67) rfl rfl rfl (f := 1) rfl (v := .int .i64 (w64 (m + a))) rfl hS.b8 (by show 1 < 2; omega) sizeI6 rfl rfl ?_; intro x1 kE GE; refine wp_stop ?_))
    have hS := hS.rs (q := (true, w64 (m + a))) kE GE hw2 (by omega) h45 h58
    have hb3 := hb3.keep (GE.block _ hb3.lt (by intro e; injection e with e; omega))
    clear c0 c1 c2 c3
    have c0 := hb3.cellAt 0 _ rfl
    have c1 := hb3.cellAt 1 _ rfl
    have c2 := hb3.cellAt 2 _ rfl
    have c3 := hb3.cellAt 3 _ rfl
    refine wp_go ?_
    go_wp2_with (first | refine wp_bld 23 [(0, .const (.bool true)), (1, .tmp 74)] rfl rfl [(0, .bool true), (1, .int .i64 (w64 (m + a)))] rfl (bldCl _) ?_ | refine wp_ixp 24 (.tmp 2) (.tmp 70) rfl rfl rfl rfl Try.underlying24 hi sizeCl ?_ | (refine wp_st 23 (.tmp 76) (.tmp 75) rfl rfl rfl (f := i * 2) (by rw [Nat.zero_add]; rfl) (l := Cl.l ⟨true, w64 (m + a)⟩) rfl hS.b2 (by rw [Lc.out]; show i * 2 + 2 ≤ 32; omega) sizeCl (by intro v hv; simp only [Cl.l, List.mem_cons, List.not_mem_nil, or_false] at hv; rcases hv with rfl | rfl <;> rfl) ?_; intro x2 kE GE; refine wp_stop ?_))
    have hS := hS.el hi (x := ⟨true, w64 (m + a)⟩) (w64_in _) kE GE hw2 (by omega) h45 h58
    have hfin : ∃ c', DoS w x2 g2 g4 g5 g8 c' D.2 ∧ nmF c' = D.1 := ⟨_, by rw [HD.out]; show DoS _ _ _ _ _ _ _ (true, w64 ((nmC ⟨t, n⟩).getD 0 + a)); rw [← Hm.out]; exact hS, by rw [HD.out, nm_set]; show _ = (nmF c).set i (some (w64 ((nmC ⟨t, n⟩).getD 0 + a))); rw [← Hm.out]; rfl⟩
    obtain ⟨c', hS, hnm⟩ := hfin
    have Hnm := hid hnm
    have Hin := hid hS.in_
    have Lc := hid (show (cvs c').length = 32 by rw [len_cvs, hS.in_.len])
    clear hnm
    refine wp_go ?_
    go_upto_region 23 with (fail)
    have hBd : Below x2.heap.size x2 x2.drew := (Below.refl _ _).drew
    obtain ⟨wd, hwd⟩ : ∃ x, x = x2.drew := ⟨_, rfl⟩
    rw [← hwd] at hBd
    have h2 := hS.b2.below hBd
    have h8 := hS.b8.below hBd
    have h4 := hS.b4.below hBd
    have h5 := hS.b5.below hBd
    have hB := hS.B.trans (hBd.mono hS.B.size)
    clear hS hBd
    refine wp_region_noPanic ?_
    refine wp_region_any (by kernel_rfl) ?_
    change wpAny _ _ _ _ _ _ _ (World.drew _)
    rw [← hwd]
    clear hwd
    -- T
    refine wpAny_ready (rs := [0, 1]) (by kernel_rfl) (by simp) ?_
    refine AllReady.cons (o := ⟨some 98, .load 24 (.tmp 2), _, _, _, none⟩) rfl (fun K hK => ?_) ?_
    · refine step_ld 24 (.tmp 2) (by rfl) (by rfl) (by rfl) h2.whole Try.underlying24 rfl (by rw [Lc.out]; exact sizeCs) ?_
      refine hK _ _ ?_
      clear hK K
      try simp only [Act.put, List.setIfInBounds_toArray, List.set_cons_zero, List.set_cons_succ]
      refine wpAny_ready (rs := [1, 2]) (by kernel_rfl) (by simp) ?_
      refine AllReady.cons (o := ⟨some 99, .load 30 (.tmp 8), _, _, _, none⟩) rfl (fun K hK => ?_) ?_
      · refine step_ld 30 (.tmp 8) (by rfl) (by rfl) (by rfl) h8.whole Try.underlying30 rfl sizeRs ?_
        refine hK _ _ ?_
        clear hK K
        try simp only [Act.put, List.setIfInBounds_toArray, List.set_cons_zero, List.set_cons_succ]
        refine wpAny_ready (rs := [2]) (by kernel_rfl) (by simp) ?_
        refine AllReady.cons (o := ⟨none, .store 24 (.tmp 4) (.tmp 98), _, _, _, none⟩) rfl (fun K hK => ?_) AllReady.nil
        refine step_st 24 (.tmp 4) (.tmp 98) (by rfl) (by rfl) (by rfl) (f := 0) (by rfl) (l := cvs c') (by rfl) h4 (by rw [Lc.out, len_zCs]; omega) (by rw [Lc.out]; exact sizeCs) (one_cvs _) ?_
        intro x1 k4 G4
        have h4 := blk_all k4 (by rw [Lc.out, len_zCs]; omega)
        have h8 := h8.keep (G4.block _ h8.lt (by intro e; injection e with e; omega))
        have h2 := h2.keep (G4.block _ h2.lt (by intro e; injection e with e; omega))
        have h5 := h5.keep (G4.block _ h5.lt (by intro e; injection e with e; omega))
        have hB := hB.grown G4 hB.size (by intro k hk; injection hk with hk; omega)
        refine hK _ _ ?_
        clear hK K
        try simp only [Act.put, List.setIfInBounds_toArray, List.set_cons_zero, List.set_cons_succ]
        refine wpAny_ready (rs := [3]) (by kernel_rfl) (by simp) ?_
        refine AllReady.cons (o := ⟨none, .store 30 (.tmp 5) (.tmp 99), _, _, _, none⟩) rfl (fun K hK => ?_) AllReady.nil
        refine step_st 30 (.tmp 5) (.tmp 99) (by rfl) (by rfl) (by rfl) (f := 0) (by rfl) (l := rvs D.2) (by rfl) h5 (by show 0 + 2 ≤ 2; omega) sizeRs (one_rvs _) ?_
        intro x2 k5 G5
        have h5 := blk_all k5 (by show 2 ≤ 2; omega)
        have h8 := h8.keep (G5.block _ h8.lt (by intro e; injection e with e; omega))
        have h2 := h2.keep (G5.block _ h2.lt (by intro e; injection e with e; omega))
        have h4 := h4.keep (G5.block _ h4.lt (by intro e; injection e with e; omega))
        have hB := hB.grown G5 hB.size (by intro k hk; injection hk with hk; omega)
        refine hK _ _ ?_
        clear hK K
        try simp only [Act.put, List.setIfInBounds_toArray, List.set_cons_zero, List.set_cons_succ]
        refine wpAny_done (by kernel_rfl) ?_ _
        refine NoPanic.normal ?_
        go_wp2
        refine ret_cell2 rfl rfl rfl h4.whole h5.whole Try.underlying24 rfl (by rw [Lc.out]; exact sizeCs) Try.underlying30 rfl sizeRs rfl ?_
        exact ⟨c', rfl, Hin.out, Hnm.out, hB⟩
      refine AllReady.cons (o := ⟨none, .store 24 (.tmp 4) (.tmp 98), _, _, _, none⟩) rfl (fun K hK => ?_) AllReady.nil
      refine step_st 24 (.tmp 4) (.tmp 98) (by rfl) (by rfl) (by rfl) (f := 0) (by rfl) (l := cvs c') (by rfl) h4 (by rw [Lc.out, len_zCs]; omega) (by rw [Lc.out]; exact sizeCs) (one_cvs _) ?_
      intro x1 k4 G4
      have h4 := blk_all k4 (by rw [Lc.out, len_zCs]; omega)
      have h8 := h8.keep (G4.block _ h8.lt (by intro e; injection e with e; omega))
      have h2 := h2.keep (G4.block _ h2.lt (by intro e; injection e with e; omega))
      have h5 := h5.keep (G4.block _ h5.lt (by intro e; injection e with e; omega))
      have hB := hB.grown G4 hB.size (by intro k hk; injection hk with hk; omega)
      refine hK _ _ ?_
      clear hK K
      try simp only [Act.put, List.setIfInBounds_toArray, List.set_cons_zero, List.set_cons_succ]
      refine wpAny_ready (rs := [1]) (by kernel_rfl) (by simp) ?_
      refine AllReady.cons (o := ⟨some 99, .load 30 (.tmp 8), _, _, _, none⟩) rfl (fun K hK => ?_) AllReady.nil
      refine step_ld 30 (.tmp 8) (by rfl) (by rfl) (by rfl) h8.whole Try.underlying30 rfl sizeRs ?_
      refine hK _ _ ?_
      clear hK K
      try simp only [Act.put, List.setIfInBounds_toArray, List.set_cons_zero, List.set_cons_succ]
      refine wpAny_ready (rs := [3]) (by kernel_rfl) (by simp) ?_
      refine AllReady.cons (o := ⟨none, .store 30 (.tmp 5) (.tmp 99), _, _, _, none⟩) rfl (fun K hK => ?_) AllReady.nil
      refine step_st 30 (.tmp 5) (.tmp 99) (by rfl) (by rfl) (by rfl) (f := 0) (by rfl) (l := rvs D.2) (by rfl) h5 (by show 0 + 2 ≤ 2; omega) sizeRs (one_rvs _) ?_
      intro x2 k5 G5
      have h5 := blk_all k5 (by show 2 ≤ 2; omega)
      have h8 := h8.keep (G5.block _ h8.lt (by intro e; injection e with e; omega))
      have h2 := h2.keep (G5.block _ h2.lt (by intro e; injection e with e; omega))
      have h4 := h4.keep (G5.block _ h4.lt (by intro e; injection e with e; omega))
      have hB := hB.grown G5 hB.size (by intro k hk; injection hk with hk; omega)
      refine hK _ _ ?_
      clear hK K
      try simp only [Act.put, List.setIfInBounds_toArray, List.set_cons_zero, List.set_cons_succ]
      refine wpAny_done (by kernel_rfl) ?_ _
      refine NoPanic.normal ?_
      go_wp2
      refine ret_cell2 rfl rfl rfl h4.whole h5.whole Try.underlying24 rfl (by rw [Lc.out]; exact sizeCs) Try.underlying30 rfl sizeRs rfl ?_
      exact ⟨c', rfl, Hin.out, Hnm.out, hB⟩
    refine AllReady.cons (o := ⟨some 99, .load 30 (.tmp 8), _, _, _, none⟩) rfl (fun K hK => ?_) AllReady.nil
    refine step_ld 30 (.tmp 8) (by rfl) (by rfl) (by rfl) h8.whole Try.underlying30 rfl sizeRs ?_
    refine hK _ _ ?_
    clear hK K
    try simp only [Act.put, List.setIfInBounds_toArray, List.set_cons_zero, List.set_cons_succ]
    refine wpAny_ready (rs := [0]) (by kernel_rfl) (by simp) ?_
    refine AllReady.cons (o := ⟨some 98, .load 24 (.tmp 2), _, _, _, none⟩) rfl (fun K hK => ?_) AllReady.nil
    refine step_ld 24 (.tmp 2) (by rfl) (by rfl) (by rfl) h2.whole Try.underlying24 rfl (by rw [Lc.out]; exact sizeCs) ?_
    refine hK _ _ ?_
    clear hK K
    try simp only [Act.put, List.setIfInBounds_toArray, List.set_cons_zero, List.set_cons_succ]
    refine wpAny_ready (rs := [2]) (by kernel_rfl) (by simp) ?_
    refine AllReady.cons (o := ⟨none, .store 24 (.tmp 4) (.tmp 98), _, _, _, none⟩) rfl (fun K hK => ?_) AllReady.nil
    refine step_st 24 (.tmp 4) (.tmp 98) (by rfl) (by rfl) (by rfl) (f := 0) (by rfl) (l := cvs c') (by rfl) h4 (by rw [Lc.out, len_zCs]; omega) (by rw [Lc.out]; exact sizeCs) (one_cvs _) ?_
    intro x1 k4 G4
    have h4 := blk_all k4 (by rw [Lc.out, len_zCs]; omega)
    have h8 := h8.keep (G4.block _ h8.lt (by intro e; injection e with e; omega))
    have h2 := h2.keep (G4.block _ h2.lt (by intro e; injection e with e; omega))
    have h5 := h5.keep (G4.block _ h5.lt (by intro e; injection e with e; omega))
    have hB := hB.grown G4 hB.size (by intro k hk; injection hk with hk; omega)
    refine hK _ _ ?_
    clear hK K
    try simp only [Act.put, List.setIfInBounds_toArray, List.set_cons_zero, List.set_cons_succ]
    refine wpAny_ready (rs := [3]) (by kernel_rfl) (by simp) ?_
    refine AllReady.cons (o := ⟨none, .store 30 (.tmp 5) (.tmp 99), _, _, _, none⟩) rfl (fun K hK => ?_) AllReady.nil
    refine step_st 30 (.tmp 5) (.tmp 99) (by rfl) (by rfl) (by rfl) (f := 0) (by rfl) (l := rvs D.2) (by rfl) h5 (by show 0 + 2 ≤ 2; omega) sizeRs (one_rvs _) ?_
    intro x2 k5 G5
    have h5 := blk_all k5 (by show 2 ≤ 2; omega)
    have h8 := h8.keep (G5.block _ h8.lt (by intro e; injection e with e; omega))
    have h2 := h2.keep (G5.block _ h2.lt (by intro e; injection e with e; omega))
    have h4 := h4.keep (G5.block _ h4.lt (by intro e; injection e with e; omega))
    have hB := hB.grown G5 hB.size (by intro k hk; injection hk with hk; omega)
    refine hK _ _ ?_
    clear hK K
    try simp only [Act.put, List.setIfInBounds_toArray, List.set_cons_zero, List.set_cons_succ]
    refine wpAny_done (by kernel_rfl) ?_ _
    refine NoPanic.normal ?_
    go_wp2
    refine ret_cell2 rfl rfl rfl h4.whole h5.whole Try.underlying24 rfl (by rw [Lc.out]; exact sizeCs) Try.underlying30 rfl sizeRs rfl ?_
    exact ⟨c', rfl, Hin.out, Hnm.out, hB⟩
    -- T end
  · by_cases hta : t = true ∧ m = a
    · obtain ⟨rfl, rfl⟩ := hta
      have hmm : (m == m) = true := beq_self_eq_true m
      have hnm : nmC ⟨true, n⟩ = some m := by have : m = n := Hm.out; rw [this]; rfl
      go_wp2_with (first | (refine wp_st1 4 (.tmp 86) (.tmp 85) rfl rfl rfl (f := 0) rfl (v := .bool true) rfl hS.b8 (by show 0 < 2; omega) sizeBo rfl rfl ?_; intro x1 kE GE; refine wp_stop ?_))
      have hS := hS.rs (q := (true, m)) kE GE hw2 (by omega) h45 h58
      have hb3 := hb3.keep (GE.block _ hb3.lt (by intro e; injection e with e; omega))
      have e80 := hS.b8.cellAt 0 _ rfl
      clear c0 c1 c2 c3
      have c0 := hb3.cellAt 0 _ rfl
      have c1 := hb3.cellAt 1 _ rfl
      have c2 := hb3.cellAt 2 _ rfl
      have c3 := hb3.cellAt 3 _ rfl
      refine wp_go ?_
      go_wp2_with (first | (refine wp_st1 2 (.tmp 91) (.tmp 90) rfl rfl rfl (f := 1) rfl (v := .int .i64 b) rfl hS.b8 (by show 1 < 2; omega) sizeI6 rfl rfl ?_; intro x2 kE GE; refine wp_stop ?_))
      have hS := hS.rs (q := (true, b)) kE GE hw2 (by omega) h45 h58
      have hb3 := hb3.keep (GE.block _ hb3.lt (by intro e; injection e with e; omega))
      clear c0 c1 c2 c3 e80
      have c0 := hb3.cellAt 0 _ rfl
      have c1 := hb3.cellAt 1 _ rfl
      have c2 := hb3.cellAt 2 _ rfl
      have c3 := hb3.cellAt 3 _ rfl
      refine wp_go ?_
      go_wp2_with (first | refine wp_bld 23 [(0, .const (.bool true)), (1, .tmp 95)] rfl rfl [(0, .bool true), (1, .int .i64 b)] rfl (bldCl _) ?_ | refine wp_ixp 24 (.tmp 2) (.tmp 93) rfl rfl rfl rfl Try.underlying24 hi sizeCl ?_ | (refine wp_st 23 (.tmp 97) (.tmp 96) rfl rfl rfl (f := i * 2) (by rw [Nat.zero_add]; rfl) (l := Cl.l ⟨true, b⟩) rfl hS.b2 (by rw [Lc.out]; show i * 2 + 2 ≤ 32; omega) sizeCl (by intro v hv; simp only [Cl.l, List.mem_cons, List.not_mem_nil, or_false] at hv; rcases hv with rfl | rfl <;> rfl) ?_; intro x3 kE GE; refine wp_stop ?_))
      have hS := hS.el hi (x := ⟨true, b⟩) hib kE GE hw2 (by omega) h45 h58
      have hfin : ∃ c', DoS w x3 g2 g4 g5 g8 c' D.2 ∧ nmF c' = D.1 := ⟨_, by rw [HD.out, hnm]; show DoS _ _ _ _ _ _ _ (if some m = some m then (true, b) else _); rw [if_pos rfl]; exact hS, by rw [HD.out, nm_set, hnm]; show _ = (nmF c).set i (if some m = some m then some b else _); rw [if_pos rfl]; rfl⟩
      obtain ⟨c', hS, hnm⟩ := hfin
      have Hnm := hid hnm
      have Hin := hid hS.in_
      have Lc := hid (show (cvs c').length = 32 by rw [len_cvs, hS.in_.len])
      clear hnm
      refine wp_go ?_
      go_upto_region 23 with (fail)
      have hBd : Below x3.heap.size x3 x3.drew := (Below.refl _ _).drew
      obtain ⟨wd, hwd⟩ : ∃ x, x = x3.drew := ⟨_, rfl⟩
      rw [← hwd] at hBd
      have h2 := hS.b2.below hBd
      have h8 := hS.b8.below hBd
      have h4 := hS.b4.below hBd
      have h5 := hS.b5.below hBd
      have hB := hS.B.trans (hBd.mono hS.B.size)
      clear hS hBd
      refine wp_region_noPanic ?_
      refine wp_region_any (by kernel_rfl) ?_
      change wpAny _ _ _ _ _ _ _ (World.drew _)
      rw [← hwd]
      clear hwd
      -- T
      refine wpAny_ready (rs := [0, 1]) (by kernel_rfl) (by simp) ?_
      refine AllReady.cons (o := ⟨some 98, .load 24 (.tmp 2), _, _, _, none⟩) rfl (fun K hK => ?_) ?_
      · refine step_ld 24 (.tmp 2) (by rfl) (by rfl) (by rfl) h2.whole Try.underlying24 rfl (by rw [Lc.out]; exact sizeCs) ?_
        refine hK _ _ ?_
        clear hK K
        try simp only [Act.put, List.setIfInBounds_toArray, List.set_cons_zero, List.set_cons_succ]
        refine wpAny_ready (rs := [1, 2]) (by kernel_rfl) (by simp) ?_
        refine AllReady.cons (o := ⟨some 99, .load 30 (.tmp 8), _, _, _, none⟩) rfl (fun K hK => ?_) ?_
        · refine step_ld 30 (.tmp 8) (by rfl) (by rfl) (by rfl) h8.whole Try.underlying30 rfl sizeRs ?_
          refine hK _ _ ?_
          clear hK K
          try simp only [Act.put, List.setIfInBounds_toArray, List.set_cons_zero, List.set_cons_succ]
          refine wpAny_ready (rs := [2]) (by kernel_rfl) (by simp) ?_
          refine AllReady.cons (o := ⟨none, .store 24 (.tmp 4) (.tmp 98), _, _, _, none⟩) rfl (fun K hK => ?_) AllReady.nil
          refine step_st 24 (.tmp 4) (.tmp 98) (by rfl) (by rfl) (by rfl) (f := 0) (by rfl) (l := cvs c') (by rfl) h4 (by rw [Lc.out, len_zCs]; omega) (by rw [Lc.out]; exact sizeCs) (one_cvs _) ?_
          intro x1 k4 G4
          have h4 := blk_all k4 (by rw [Lc.out, len_zCs]; omega)
          have h8 := h8.keep (G4.block _ h8.lt (by intro e; injection e with e; omega))
          have h2 := h2.keep (G4.block _ h2.lt (by intro e; injection e with e; omega))
          have h5 := h5.keep (G4.block _ h5.lt (by intro e; injection e with e; omega))
          have hB := hB.grown G4 hB.size (by intro k hk; injection hk with hk; omega)
          refine hK _ _ ?_
          clear hK K
          try simp only [Act.put, List.setIfInBounds_toArray, List.set_cons_zero, List.set_cons_succ]
          refine wpAny_ready (rs := [3]) (by kernel_rfl) (by simp) ?_
          refine AllReady.cons (o := ⟨none, .store 30 (.tmp 5) (.tmp 99), _, _, _, none⟩) rfl (fun K hK => ?_) AllReady.nil
          refine step_st 30 (.tmp 5) (.tmp 99) (by rfl) (by rfl) (by rfl) (f := 0) (by rfl) (l := rvs D.2) (by rfl) h5 (by show 0 + 2 ≤ 2; omega) sizeRs (one_rvs _) ?_
          intro x2 k5 G5
          have h5 := blk_all k5 (by show 2 ≤ 2; omega)
          have h8 := h8.keep (G5.block _ h8.lt (by intro e; injection e with e; omega))
          have h2 := h2.keep (G5.block _ h2.lt (by intro e; injection e with e; omega))
          have h4 := h4.keep (G5.block _ h4.lt (by intro e; injection e with e; omega))
          have hB := hB.grown G5 hB.size (by intro k hk; injection hk with hk; omega)
          refine hK _ _ ?_
          clear hK K
          try simp only [Act.put, List.setIfInBounds_toArray, List.set_cons_zero, List.set_cons_succ]
          refine wpAny_done (by kernel_rfl) ?_ _
          refine NoPanic.normal ?_
          go_wp2
          refine ret_cell2 rfl rfl rfl h4.whole h5.whole Try.underlying24 rfl (by rw [Lc.out]; exact sizeCs) Try.underlying30 rfl sizeRs rfl ?_
          exact ⟨c', rfl, Hin.out, Hnm.out, hB⟩
        refine AllReady.cons (o := ⟨none, .store 24 (.tmp 4) (.tmp 98), _, _, _, none⟩) rfl (fun K hK => ?_) AllReady.nil
        refine step_st 24 (.tmp 4) (.tmp 98) (by rfl) (by rfl) (by rfl) (f := 0) (by rfl) (l := cvs c') (by rfl) h4 (by rw [Lc.out, len_zCs]; omega) (by rw [Lc.out]; exact sizeCs) (one_cvs _) ?_
        intro x1 k4 G4
        have h4 := blk_all k4 (by rw [Lc.out, len_zCs]; omega)
        have h8 := h8.keep (G4.block _ h8.lt (by intro e; injection e with e; omega))
        have h2 := h2.keep (G4.block _ h2.lt (by intro e; injection e with e; omega))
        have h5 := h5.keep (G4.block _ h5.lt (by intro e; injection e with e; omega))
        have hB := hB.grown G4 hB.size (by intro k hk; injection hk with hk; omega)
        refine hK _ _ ?_
        clear hK K
        try simp only [Act.put, List.setIfInBounds_toArray, List.set_cons_zero, List.set_cons_succ]
        refine wpAny_ready (rs := [1]) (by kernel_rfl) (by simp) ?_
        refine AllReady.cons (o := ⟨some 99, .load 30 (.tmp 8), _, _, _, none⟩) rfl (fun K hK => ?_) AllReady.nil
        refine step_ld 30 (.tmp 8) (by rfl) (by rfl) (by rfl) h8.whole Try.underlying30 rfl sizeRs ?_
        refine hK _ _ ?_
        clear hK K
        try simp only [Act.put, List.setIfInBounds_toArray, List.set_cons_zero, List.set_cons_succ]
        refine wpAny_ready (rs := [3]) (by kernel_rfl) (by simp) ?_
        refine AllReady.cons (o := ⟨none, .store 30 (.tmp 5) (.tmp 99), _, _, _, none⟩) rfl (fun K hK => ?_) AllReady.nil
        refine step_st 30 (.tmp 5) (.tmp 99) (by rfl) (by rfl) (by rfl) (f := 0) (by rfl) (l := rvs D.2) (by rfl) h5 (by show 0 + 2 ≤ 2; omega) sizeRs (one_rvs _) ?_
        intro x2 k5 G5
        have h5 := blk_all k5 (by show 2 ≤ 2; omega)
        have h8 := h8.keep (G5.block _ h8.lt (by intro e; injection e with e; omega))
        have h2 := h2.keep (G5.block _ h2.lt (by intro e; injection e with e; omega))
        have h4 := h4.keep (G5.block _ h4.lt (by intro e; injection e with e; omega))
        have hB := hB.grown G5 hB.size (by intro k hk; injection hk with hk; omega)
        refine hK _ _ ?_
        clear hK K
        try simp only [Act.put, List.setIfInBounds_toArray, List.set_cons_zero, List.set_cons_succ]
        refine wpAny_done (by kernel_rfl) ?_ _
        refine NoPanic.normal ?_
        go_wp2
        refine ret_cell2 rfl rfl rfl h4.whole h5.whole Try.underlying24 rfl (by rw [Lc.out]; exact sizeCs) Try.underlying30 rfl sizeRs rfl ?_
        exact ⟨c', rfl, Hin.out, Hnm.out, hB⟩
      refine AllReady.cons (o := ⟨some 99, .load 30 (.tmp 8), _, _, _, none⟩) rfl (fun K hK => ?_) AllReady.nil
      refine step_ld 30 (.tmp 8) (by rfl) (by rfl) (by rfl) h8.whole Try.underlying30 rfl sizeRs ?_
      refine hK _ _ ?_
      clear hK K
      try simp only [Act.put, List.setIfInBounds_toArray, List.set_cons_zero, List.set_cons_succ]
      refine wpAny_ready (rs := [0]) (by kernel_rfl) (by simp) ?_
      refine AllReady.cons (o := ⟨some 98, .load 24 (.tmp 2), _, _, _, none⟩) rfl (fun K hK => ?_) AllReady.nil
      refine step_ld 24 (.tmp 2) (by rfl) (by rfl) (by rfl) h2.whole Try.underlying24 rfl (by rw [Lc.out]; exact sizeCs) ?_
      refine hK _ _ ?_
      clear hK K
      try simp only [Act.put, List.setIfInBounds_toArray, List.set_cons_zero, List.set_cons_succ]
      refine wpAny_ready (rs := [2]) (by kernel_rfl) (by simp) ?_
      refine AllReady.cons (o := ⟨none, .store 24 (.tmp 4) (.tmp 98), _, _, _, none⟩) rfl (fun K hK => ?_) AllReady.nil
      refine step_st 24 (.tmp 4) (.tmp 98) (by rfl) (by rfl) (by rfl) (f := 0) (by rfl) (l := cvs c') (by rfl) h4 (by rw [Lc.out, len_zCs]; omega) (by rw [Lc.out]; exact sizeCs) (one_cvs _) ?_
      intro x1 k4 G4
      have h4 := blk_all k4 (by rw [Lc.out, len_zCs]; omega)
      have h8 := h8.keep (G4.block _ h8.lt (by intro e; injection e with e; omega))
      have h2 := h2.keep (G4.block _ h2.lt (by intro e; injection e with e; omega))
      have h5 := h5.keep (G4.block _ h5.lt (by intro e; injection e with e; omega))
      have hB := hB.grown G4 hB.size (by intro k hk; injection hk with hk; omega)
      refine hK _ _ ?_
      clear hK K
      try simp only [Act.put, List.setIfInBounds_toArray, List.set_cons_zero, List.set_cons_succ]
      refine wpAny_ready (rs := [3]) (by kernel_rfl) (by simp) ?_
      refine AllReady.cons (o := ⟨none, .store 30 (.tmp 5) (.tmp 99), _, _, _, none⟩) rfl (fun K hK => ?_) AllReady.nil
      refine step_st 30 (.tmp 5) (.tmp 99) (by rfl) (by rfl) (by rfl) (f := 0) (by rfl) (l := rvs D.2) (by rfl) h5 (by show 0 + 2 ≤ 2; omega) sizeRs (one_rvs _) ?_
      intro x2 k5 G5
      have h5 := blk_all k5 (by show 2 ≤ 2; omega)
      have h8 := h8.keep (G5.block _ h8.lt (by intro e; injection e with e; omega))
      have h2 := h2.keep (G5.block _ h2.lt (by intro e; injection e with e; omega))
      have h4 := h4.keep (G5.block _ h4.lt (by intro e; injection e with e; omega))
      have hB := hB.grown G5 hB.size (by intro k hk; injection hk with hk; omega)
      refine hK _ _ ?_
      clear hK K
      try simp only [Act.put, List.setIfInBounds_toArray, List.set_cons_zero, List.set_cons_succ]
      refine wpAny_done (by kernel_rfl) ?_ _
      refine NoPanic.normal ?_
      go_wp2
      refine ret_cell2 rfl rfl rfl h4.whole h5.whole Try.underlying24 rfl (by rw [Lc.out]; exact sizeCs) Try.underlying30 rfl sizeRs rfl ?_
      exact ⟨c', rfl, Hin.out, Hnm.out, hB⟩
      -- T end
    · have hnm : nmC ⟨t, n⟩ ≠ some a := by
        intro e
        cases t
        · cases e
        · have h1 : m = n := Hm.out
          have h2 : n = a := by injection e
          exact hta ⟨rfl, h1.trans h2⟩
      have htb : (t && (m == a)) = false := by
        cases t
        · rfl
        · exact beq_eq_false_iff_ne.2 (fun e => hta ⟨rfl, e⟩)
      cases t
      · go_wp2_with (first | (refine wp_st1 4 (.tmp 86) (.tmp 85) rfl rfl rfl (f := 0) rfl (v := .bool false) rfl hS.b8 (by show 0 < 2; omega) sizeBo rfl rfl ?_; intro x1 kE GE; refine wp_stop ?_))
        have hS := hS.rs (q := (false, m)) kE GE hw2 (by omega) h45 h58
        have e80 := hS.b8.cellAt 0 _ rfl
        have hfin : ∃ c', DoS w x1 g2 g4 g5 g8 c' D.2 ∧ nmF c' = D.1 := ⟨c, by rw [HD.out]; show DoS _ _ _ _ _ _ _ (if nmC ⟨false, n⟩ = some a then (true, b) else (false, (nmC ⟨false, n⟩).getD 0)); rw [if_neg hnm, ← Hm.out]; exact hS, by rw [HD.out]; show _ = (nmF c).set i (if nmC ⟨false, n⟩ = some a then some b else nmC ⟨false, n⟩); rw [if_neg hnm]; exact hsm.out.symm⟩
        obtain ⟨c', hS, hnm⟩ := hfin
        have Hnm := hid hnm
        have Hin := hid hS.in_
        have Lc := hid (show (cvs c').length = 32 by rw [len_cvs, hS.in_.len])
        clear hnm
        refine wp_go ?_
        go_upto_region 23 with (fail)
        have hBd : Below x1.heap.size x1 x1.drew := (Below.refl _ _).drew
        obtain ⟨wd, hwd⟩ : ∃ x, x = x1.drew := ⟨_, rfl⟩
        rw [← hwd] at hBd
        have h2 := hS.b2.below hBd
        have h8 := hS.b8.below hBd
        have h4 := hS.b4.below hBd
        have h5 := hS.b5.below hBd
        have hB := hS.B.trans (hBd.mono hS.B.size)
        clear hS hBd
        refine wp_region_noPanic ?_
        refine wp_region_any (by kernel_rfl) ?_
        change wpAny _ _ _ _ _ _ _ (World.drew _)
        rw [← hwd]
        clear hwd
        -- T
        refine wpAny_ready (rs := [0, 1]) (by kernel_rfl) (by simp) ?_
        refine AllReady.cons (o := ⟨some 98, .load 24 (.tmp 2), _, _, _, none⟩) rfl (fun K hK => ?_) ?_
        · refine step_ld 24 (.tmp 2) (by rfl) (by rfl) (by rfl) h2.whole Try.underlying24 rfl (by rw [Lc.out]; exact sizeCs) ?_
          refine hK _ _ ?_
          clear hK K
          try simp only [Act.put, List.setIfInBounds_toArray, List.set_cons_zero, List.set_cons_succ]
          refine wpAny_ready (rs := [1, 2]) (by kernel_rfl) (by simp) ?_
          refine AllReady.cons (o := ⟨some 99, .load 30 (.tmp 8), _, _, _, none⟩) rfl (fun K hK => ?_) ?_
          · refine step_ld 30 (.tmp 8) (by rfl) (by rfl) (by rfl) h8.whole Try.underlying30 rfl sizeRs ?_
            refine hK _ _ ?_
            clear hK K
            try simp only [Act.put, List.setIfInBounds_toArray, List.set_cons_zero, List.set_cons_succ]
            refine wpAny_ready (rs := [2]) (by kernel_rfl) (by simp) ?_
            refine AllReady.cons (o := ⟨none, .store 24 (.tmp 4) (.tmp 98), _, _, _, none⟩) rfl (fun K hK => ?_) AllReady.nil
            refine step_st 24 (.tmp 4) (.tmp 98) (by rfl) (by rfl) (by rfl) (f := 0) (by rfl) (l := cvs c') (by rfl) h4 (by rw [Lc.out, len_zCs]; omega) (by rw [Lc.out]; exact sizeCs) (one_cvs _) ?_
            intro x1 k4 G4
            have h4 := blk_all k4 (by rw [Lc.out, len_zCs]; omega)
            have h8 := h8.keep (G4.block _ h8.lt (by intro e; injection e with e; omega))
            have h2 := h2.keep (G4.block _ h2.lt (by intro e; injection e with e; omega))
            have h5 := h5.keep (G4.block _ h5.lt (by intro e; injection e with e; omega))
            have hB := hB.grown G4 hB.size (by intro k hk; injection hk with hk; omega)
            refine hK _ _ ?_
            clear hK K
            try simp only [Act.put, List.setIfInBounds_toArray, List.set_cons_zero, List.set_cons_succ]
            refine wpAny_ready (rs := [3]) (by kernel_rfl) (by simp) ?_
            refine AllReady.cons (o := ⟨none, .store 30 (.tmp 5) (.tmp 99), _, _, _, none⟩) rfl (fun K hK => ?_) AllReady.nil
            refine step_st 30 (.tmp 5) (.tmp 99) (by rfl) (by rfl) (by rfl) (f := 0) (by rfl) (l := rvs D.2) (by rfl) h5 (by show 0 + 2 ≤ 2; omega) sizeRs (one_rvs _) ?_
            intro x2 k5 G5
            have h5 := blk_all k5 (by show 2 ≤ 2; omega)
            have h8 := h8.keep (G5.block _ h8.lt (by intro e; injection e with e; omega))
            have h2 := h2.keep (G5.block _ h2.lt (by intro e; injection e with e; omega))
            have h4 := h4.keep (G5.block _ h4.lt (by intro e; injection e with e; omega))
            have hB := hB.grown G5 hB.size (by intro k hk; injection hk with hk; omega)
            refine hK _ _ ?_
            clear hK K
            try simp only [Act.put, List.setIfInBounds_toArray, List.set_cons_zero, List.set_cons_succ]
            refine wpAny_done (by kernel_rfl) ?_ _
            refine NoPanic.normal ?_
            go_wp2
            refine ret_cell2 rfl rfl rfl h4.whole h5.whole Try.underlying24 rfl (by rw [Lc.out]; exact sizeCs) Try.underlying30 rfl sizeRs rfl ?_
            exact ⟨c', rfl, Hin.out, Hnm.out, hB⟩
          refine AllReady.cons (o := ⟨none, .store 24 (.tmp 4) (.tmp 98), _, _, _, none⟩) rfl (fun K hK => ?_) AllReady.nil
          refine step_st 24 (.tmp 4) (.tmp 98) (by rfl) (by rfl) (by rfl) (f := 0) (by rfl) (l := cvs c') (by rfl) h4 (by rw [Lc.out, len_zCs]; omega) (by rw [Lc.out]; exact sizeCs) (one_cvs _) ?_
          intro x1 k4 G4
          have h4 := blk_all k4 (by rw [Lc.out, len_zCs]; omega)
          have h8 := h8.keep (G4.block _ h8.lt (by intro e; injection e with e; omega))
          have h2 := h2.keep (G4.block _ h2.lt (by intro e; injection e with e; omega))
          have h5 := h5.keep (G4.block _ h5.lt (by intro e; injection e with e; omega))
          have hB := hB.grown G4 hB.size (by intro k hk; injection hk with hk; omega)
          refine hK _ _ ?_
          clear hK K
          try simp only [Act.put, List.setIfInBounds_toArray, List.set_cons_zero, List.set_cons_succ]
          refine wpAny_ready (rs := [1]) (by kernel_rfl) (by simp) ?_
          refine AllReady.cons (o := ⟨some 99, .load 30 (.tmp 8), _, _, _, none⟩) rfl (fun K hK => ?_) AllReady.nil
          refine step_ld 30 (.tmp 8) (by rfl) (by rfl) (by rfl) h8.whole Try.underlying30 rfl sizeRs ?_
          refine hK _ _ ?_
          clear hK K
          try simp only [Act.put, List.setIfInBounds_toArray, List.set_cons_zero, List.set_cons_succ]
          refine wpAny_ready (rs := [3]) (by kernel_rfl) (by simp) ?_
          refine AllReady.cons (o := ⟨none, .store 30 (.tmp 5) (.tmp 99), _, _, _, none⟩) rfl (fun K hK => ?_) AllReady.nil
          refine step_st 30 (.tmp 5) (.tmp 99) (by rfl) (by rfl) (by rfl) (f := 0) (by rfl) (l := rvs D.2) (by rfl) h5 (by show 0 + 2 ≤ 2; omega) sizeRs (one_rvs _) ?_
          intro x2 k5 G5
          have h5 := blk_all k5 (by show 2 ≤ 2; omega)
          have h8 := h8.keep (G5.block _ h8.lt (by intro e; injection e with e; omega))
          have h2 := h2.keep (G5.block _ h2.lt (by intro e; injection e with e; omega))
          have h4 := h4.keep (G5.block _ h4.lt (by intro e; injection e with e; omega))
          have hB := hB.grown G5 hB.size (by intro k hk; injection hk with hk; omega)
          refine hK _ _ ?_
          clear hK K
          try simp only [Act.put, List.setIfInBounds_toArray, List.set_cons_zero, List.set_cons_succ]
          refine wpAny_done (by kernel_rfl) ?_ _
          refine NoPanic.normal ?_
          go_wp2
          refine ret_cell2 rfl rfl rfl h4.whole h5.whole Try.underlying24 rfl (by rw [Lc.out]; exact sizeCs) Try.underlying30 rfl sizeRs rfl ?_
          exact ⟨c', rfl, Hin.out, Hnm.out, hB⟩
        refine AllReady.cons (o := ⟨some 99, .load 30 (.tmp 8), _, _, _, none⟩) rfl (fun K hK => ?_) AllReady.nil
        refine step_ld 30 (.tmp 8) (by rfl) (by rfl) (by rfl) h8.whole Try.underlying30 rfl sizeRs ?_
        refine hK _ _ ?_
        clear hK K
        try simp only [Act.put, List.setIfInBounds_toArray, List.set_cons_zero, List.set_cons_succ]
        refine wpAny_ready (rs := [0]) (by kernel_rfl) (by simp) ?_
        refine AllReady.cons (o := ⟨some 98, .load 24 (.tmp 2), _, _, _, none⟩) rfl (fun K hK => ?_) AllReady.nil
        refine step_ld 24 (.tmp 2) (by rfl) (by rfl) (by rfl) h2.whole Try.underlying24 rfl (by rw [Lc.out]; exact sizeCs) ?_
        refine hK _ _ ?_
        clear hK K
        try simp only [Act.put, List.setIfInBounds_toArray, List.set_cons_zero, List.set_cons_succ]
        refine wpAny_ready (rs := [2]) (by kernel_rfl) (by simp) ?_
        refine AllReady.cons (o := ⟨none, .store 24 (.tmp 4) (.tmp 98), _, _, _, none⟩) rfl (fun K hK => ?_) AllReady.nil
        refine step_st 24 (.tmp 4) (.tmp 98) (by rfl) (by rfl) (by rfl) (f := 0) (by rfl) (l := cvs c') (by rfl) h4 (by rw [Lc.out, len_zCs]; omega) (by rw [Lc.out]; exact sizeCs) (one_cvs _) ?_
        intro x1 k4 G4
        have h4 := blk_all k4 (by rw [Lc.out, len_zCs]; omega)
        have h8 := h8.keep (G4.block _ h8.lt (by intro e; injection e with e; omega))
        have h2 := h2.keep (G4.block _ h2.lt (by intro e; injection e with e; omega))
        have h5 := h5.keep (G4.block _ h5.lt (by intro e; injection e with e; omega))
        have hB := hB.grown G4 hB.size (by intro k hk; injection hk with hk; omega)
        refine hK _ _ ?_
        clear hK K
        try simp only [Act.put, List.setIfInBounds_toArray, List.set_cons_zero, List.set_cons_succ]
        refine wpAny_ready (rs := [3]) (by kernel_rfl) (by simp) ?_
        refine AllReady.cons (o := ⟨none, .store 30 (.tmp 5) (.tmp 99), _, _, _, none⟩) rfl (fun K hK => ?_) AllReady.nil
        refine step_st 30 (.tmp 5) (.tmp 99) (by rfl) (by rfl) (by rfl) (f := 0) (by rfl) (l := rvs D.2) (by rfl) h5 (by show 0 + 2 ≤ 2; omega) sizeRs (one_rvs _) ?_
        intro x2 k5 G5
        have h5 := blk_all k5 (by show 2 ≤ 2; omega)
        have h8 := h8.keep (G5.block _ h8.lt (by intro e; injection e with e; omega))
        have h2 := h2.keep (G5.block _ h2.lt (by intro e; injection e with e; omega))
        have h4 := h4.keep (G5.block _ h4.lt (by intro e; injection e with e; omega))
        have hB := hB.grown G5 hB.size (by intro k hk; injection hk with hk; omega)
        refine hK _ _ ?_
        clear hK K
        try simp only [Act.put, List.setIfInBounds_toArray, List.set_cons_zero, List.set_cons_succ]
        refine wpAny_done (by kernel_rfl) ?_ _
        refine NoPanic.normal ?_
        go_wp2
        refine ret_cell2 rfl rfl rfl h4.whole h5.whole Try.underlying24 rfl (by rw [Lc.out]; exact sizeCs) Try.underlying30 rfl sizeRs rfl ?_
        exact ⟨c', rfl, Hin.out, Hnm.out, hB⟩
        -- T end
      · have hmm : (m == a) = false := htb
        clear htb hta
        go_wp2_with (first | (refine wp_st1 4 (.tmp 86) (.tmp 85) rfl rfl rfl (f := 0) rfl (v := .bool false) rfl hS.b8 (by show 0 < 2; omega) sizeBo rfl rfl ?_; intro x1 kE GE; refine wp_stop ?_))
        have hS := hS.rs (q := (false, m)) kE GE hw2 (by omega) h45 h58
        have e80 := hS.b8.cellAt 0 _ rfl
        have hfin : ∃ c', DoS w x1 g2 g4 g5 g8 c' D.2 ∧ nmF c' = D.1 := ⟨c, by rw [HD.out]; show DoS _ _ _ _ _ _ _ (if nmC ⟨true, n⟩ = some a then (true, b) else (false, (nmC ⟨true, n⟩).getD 0)); rw [if_neg hnm, ← Hm.out]; exact hS, by rw [HD.out]; show _ = (nmF c).set i (if nmC ⟨true, n⟩ = some a then some b else nmC ⟨true, n⟩); rw [if_neg hnm]; exact hsm.out.symm⟩
        obtain ⟨c', hS, hnm⟩ := hfin
        have Hnm := hid hnm
        have Hin := hid hS.in_
        have Lc := hid (show (cvs c').length = 32 by rw [len_cvs, hS.in_.len])
        clear hnm
        refine wp_go ?_
        go_upto_region 23 with (fail)
        have hBd : Below x1.heap.size x1 x1.drew := (Below.refl _ _).drew
        obtain ⟨wd, hwd⟩ : ∃ x, x = x1.drew := ⟨_, rfl⟩
        rw [← hwd] at hBd
        have h2 := hS.b2.below hBd
        have h8 := hS.b8.below hBd
        have h4 := hS.b4.below hBd
        have h5 := hS.b5.below hBd
        have hB := hS.B.trans (hBd.mono hS.B.size)
        clear hS hBd
        refine wp_region_noPanic ?_
        refine wp_region_any (by kernel_rfl) ?_
        change wpAny _ _ _ _ _ _ _ (World.drew _)
        rw [← hwd]
        clear hwd
        -- T
        refine wpAny_ready (rs := [0, 1]) (by kernel_rfl) (by simp) ?_
        refine AllReady.cons (o := ⟨some 98, .load 24 (.tmp 2), _, _, _, none⟩) rfl (fun K hK => ?_) ?_
        · refine step_ld 24 (.tmp 2) (by rfl) (by rfl) (by rfl) h2.whole Try.underlying24 rfl (by rw [Lc.out]; exact sizeCs) ?_
          refine hK _ _ ?_
          clear hK K
          try simp only [Act.put, List.setIfInBounds_toArray, List.set_cons_zero, List.set_cons_succ]
          refine wpAny_ready (rs := [1, 2]) (by kernel_rfl) (by simp) ?_
          refine AllReady.cons (o := ⟨some 99, .load 30 (.tmp 8), _, _, _, none⟩) rfl (fun K hK => ?_) ?_
          · refine step_ld 30 (.tmp 8) (by rfl) (by rfl) (by rfl) h8.whole Try.underlying30 rfl sizeRs ?_
            refine hK _ _ ?_
            clear hK K
            try simp only [Act.put, List.setIfInBounds_toArray, List.set_cons_zero, List.set_cons_succ]
            refine wpAny_ready (rs := [2]) (by kernel_rfl) (by simp) ?_
            refine AllReady.cons (o := ⟨none, .store 24 (.tmp 4) (.tmp 98), _, _, _, none⟩) rfl (fun K hK => ?_) AllReady.nil
            refine step_st 24 (.tmp 4) (.tmp 98) (by rfl) (by rfl) (by rfl) (f := 0) (by rfl) (l := cvs c') (by rfl) h4 (by rw [Lc.out, len_zCs]; omega) (by rw [Lc.out]; exact sizeCs) (one_cvs _) ?_
            intro x1 k4 G4
            have h4 := blk_all k4 (by rw [Lc.out, len_zCs]; omega)
            have h8 := h8.keep (G4.block _ h8.lt (by intro e; injection e with e; omega))
            have h2 := h2.keep (G4.block _ h2.lt (by intro e; injection e with e; omega))
            have h5 := h5.keep (G4.block _ h5.lt (by intro e; injection e with e; omega))
            have hB := hB.grown G4 hB.size (by intro k hk; injection hk with hk; omega)
            refine hK _ _ ?_
            clear hK K
            try simp only [Act.put, List.setIfInBounds_toArray, List.set_cons_zero, List.set_cons_succ]
            refine wpAny_ready (rs := [3]) (by kernel_rfl) (by simp) ?_
            refine AllReady.cons (o := ⟨none, .store 30 (.tmp 5) (.tmp 99), _, _, _, none⟩) rfl (fun K hK => ?_) AllReady.nil
            refine step_st 30 (.tmp 5) (.tmp 99) (by rfl) (by rfl) (by rfl) (f := 0) (by rfl) (l := rvs D.2) (by rfl) h5 (by show 0 + 2 ≤ 2; omega) sizeRs (one_rvs _) ?_
            intro x2 k5 G5
            have h5 := blk_all k5 (by show 2 ≤ 2; omega)
            have h8 := h8.keep (G5.block _ h8.lt (by intro e; injection e with e; omega))
            have h2 := h2.keep (G5.block _ h2.lt (by intro e; injection e with e; omega))
            have h4 := h4.keep (G5.block _ h4.lt (by intro e; injection e with e; omega))
            have hB := hB.grown G5 hB.size (by intro k hk; injection hk with hk; omega)
            refine hK _ _ ?_
            clear hK K
            try simp only [Act.put, List.setIfInBounds_toArray, List.set_cons_zero, List.set_cons_succ]
            refine wpAny_done (by kernel_rfl) ?_ _
            refine NoPanic.normal ?_
            go_wp2
            refine ret_cell2 rfl rfl rfl h4.whole h5.whole Try.underlying24 rfl (by rw [Lc.out]; exact sizeCs) Try.underlying30 rfl sizeRs rfl ?_
            exact ⟨c', rfl, Hin.out, Hnm.out, hB⟩
          refine AllReady.cons (o := ⟨none, .store 24 (.tmp 4) (.tmp 98), _, _, _, none⟩) rfl (fun K hK => ?_) AllReady.nil
          refine step_st 24 (.tmp 4) (.tmp 98) (by rfl) (by rfl) (by rfl) (f := 0) (by rfl) (l := cvs c') (by rfl) h4 (by rw [Lc.out, len_zCs]; omega) (by rw [Lc.out]; exact sizeCs) (one_cvs _) ?_
          intro x1 k4 G4
          have h4 := blk_all k4 (by rw [Lc.out, len_zCs]; omega)
          have h8 := h8.keep (G4.block _ h8.lt (by intro e; injection e with e; omega))
          have h2 := h2.keep (G4.block _ h2.lt (by intro e; injection e with e; omega))
          have h5 := h5.keep (G4.block _ h5.lt (by intro e; injection e with e; omega))
          have hB := hB.grown G4 hB.size (by intro k hk; injection hk with hk; omega)
          refine hK _ _ ?_
          clear hK K
          try simp only [Act.put, List.setIfInBounds_toArray, List.set_cons_zero, List.set_cons_succ]
          refine wpAny_ready (rs := [1]) (by kernel_rfl) (by simp) ?_
          refine AllReady.cons (o := ⟨some 99, .load 30 (.tmp 8), _, _, _, none⟩) rfl (fun K hK => ?_) AllReady.nil
          refine step_ld 30 (.tmp 8) (by rfl) (by rfl) (by rfl) h8.whole Try.underlying30 rfl sizeRs ?_
          refine hK _ _ ?_
          clear hK K
          try simp only [Act.put, List.setIfInBounds_toArray, List.set_cons_zero, List.set_cons_succ]
          refine wpAny_ready (rs := [3]) (by kernel_rfl) (by simp) ?_
          refine AllReady.cons (o := ⟨none, .store 30 (.tmp 5) (.tmp 99), _, _, _, none⟩) rfl (fun K hK => ?_) AllReady.nil
          refine step_st 30 (.tmp 5) (.tmp 99) (by rfl) (by rfl) (by rfl) (f := 0) (by rfl) (l := rvs D.2) (by rfl) h5 (by show 0 + 2 ≤ 2; omega) sizeRs (one_rvs _) ?_
          intro x2 k5 G5
          have h5 := blk_all k5 (by show 2 ≤ 2; omega)
          have h8 := h8.keep (G5.block _ h8.lt (by intro e; injection e with e; omega))
          have h2 := h2.keep (G5.block _ h2.lt (by intro e; injection e with e; omega))
          have h4 := h4.keep (G5.block _ h4.lt (by intro e; injection e with e; omega))
          have hB := hB.grown G5 hB.size (by intro k hk; injection hk with hk; omega)
          refine hK _ _ ?_
          clear hK K
          try simp only [Act.put, List.setIfInBounds_toArray, List.set_cons_zero, List.set_cons_succ]
          refine wpAny_done (by kernel_rfl) ?_ _
          refine NoPanic.normal ?_
          go_wp2
          refine ret_cell2 rfl rfl rfl h4.whole h5.whole Try.underlying24 rfl (by rw [Lc.out]; exact sizeCs) Try.underlying30 rfl sizeRs rfl ?_
          exact ⟨c', rfl, Hin.out, Hnm.out, hB⟩
        refine AllReady.cons (o := ⟨some 99, .load 30 (.tmp 8), _, _, _, none⟩) rfl (fun K hK => ?_) AllReady.nil
        refine step_ld 30 (.tmp 8) (by rfl) (by rfl) (by rfl) h8.whole Try.underlying30 rfl sizeRs ?_
        refine hK _ _ ?_
        clear hK K
        try simp only [Act.put, List.setIfInBounds_toArray, List.set_cons_zero, List.set_cons_succ]
        refine wpAny_ready (rs := [0]) (by kernel_rfl) (by simp) ?_
        refine AllReady.cons (o := ⟨some 98, .load 24 (.tmp 2), _, _, _, none⟩) rfl (fun K hK => ?_) AllReady.nil
        refine step_ld 24 (.tmp 2) (by rfl) (by rfl) (by rfl) h2.whole Try.underlying24 rfl (by rw [Lc.out]; exact sizeCs) ?_
        refine hK _ _ ?_
        clear hK K
        try simp only [Act.put, List.setIfInBounds_toArray, List.set_cons_zero, List.set_cons_succ]
        refine wpAny_ready (rs := [2]) (by kernel_rfl) (by simp) ?_
        refine AllReady.cons (o := ⟨none, .store 24 (.tmp 4) (.tmp 98), _, _, _, none⟩) rfl (fun K hK => ?_) AllReady.nil
        refine step_st 24 (.tmp 4) (.tmp 98) (by rfl) (by rfl) (by rfl) (f := 0) (by rfl) (l := cvs c') (by rfl) h4 (by rw [Lc.out, len_zCs]; omega) (by rw [Lc.out]; exact sizeCs) (one_cvs _) ?_
        intro x1 k4 G4
        have h4 := blk_all k4 (by rw [Lc.out, len_zCs]; omega)
        have h8 := h8.keep (G4.block _ h8.lt (by intro e; injection e with e; omega))
        have h2 := h2.keep (G4.block _ h2.lt (by intro e; injection e with e; omega))
        have h5 := h5.keep (G4.block _ h5.lt (by intro e; injection e with e; omega))
        have hB := hB.grown G4 hB.size (by intro k hk; injection hk with hk; omega)
        refine hK _ _ ?_
        clear hK K
        try simp only [Act.put, List.setIfInBounds_toArray, List.set_cons_zero, List.set_cons_succ]
        refine wpAny_ready (rs := [3]) (by kernel_rfl) (by simp) ?_
        refine AllReady.cons (o := ⟨none, .store 30 (.tmp 5) (.tmp 99), _, _, _, none⟩) rfl (fun K hK => ?_) AllReady.nil
        refine step_st 30 (.tmp 5) (.tmp 99) (by rfl) (by rfl) (by rfl) (f := 0) (by rfl) (l := rvs D.2) (by rfl) h5 (by show 0 + 2 ≤ 2; omega) sizeRs (one_rvs _) ?_
        intro x2 k5 G5
        have h5 := blk_all k5 (by show 2 ≤ 2; omega)
        have h8 := h8.keep (G5.block _ h8.lt (by intro e; injection e with e; omega))
        have h2 := h2.keep (G5.block _ h2.lt (by intro e; injection e with e; omega))
        have h4 := h4.keep (G5.block _ h4.lt (by intro e; injection e with e; omega))
        have hB := hB.grown G5 hB.size (by intro k hk; injection hk with hk; omega)
        refine hK _ _ ?_
        clear hK K
        try simp only [Act.put, List.setIfInBounds_toArray, List.set_cons_zero, List.set_cons_succ]
        refine wpAny_done (by kernel_rfl) ?_ _
        refine NoPanic.normal ?_
        go_wp2
        refine ret_cell2 rfl rfl rfl h4.whole h5.whole Try.underlying24 rfl (by rw [Lc.out]; exact sizeCs) Try.underlying30 rfl sizeRs rfl ?_
        exact ⟨c', rfl, Hin.out, Hnm.out, hB⟩
        -- T end
  · go_wp2_with (first | (refine wp_st1 4 (.tmp 45) (.tmp 44) rfl rfl rfl (f := 0) rfl (v := .bool t) rfl hS.b8 (by show 0 < 2; omega) sizeBo rfl rfl ?_; intro x1 kE GE; refine wp_stop ?_))
    have hS := hS.rs (q := (t, m)) kE GE hw2 (by omega) h45 h58
    have hb3 := hb3.keep (GE.block _ hb3.lt (by intro e; injection e with e; omega))
    clear c0 c1 c2 c3
    have c0 := hb3.cellAt 0 _ rfl
    have c1 := hb3.cellAt 1 _ rfl
    have c2 := hb3.cellAt 2 _ rfl
    have c3 := hb3.cellAt 3 _ rfl
    refine wp_go ?_
    go_wp2_with (first | refine wp_bld 23 [] rfl rfl [] rfl bldCz ?_ | refine wp_ixp 24 (.tmp 2) (.tmp 47) rfl rfl rfl rfl Try.underlying24 hi sizeCl ?_ | (refine wp_st 23 (.tmp 49) (.tmp 48) rfl rfl rfl (f := i * 2) (by rw [Nat.zero_add]; rfl) (l := zC.l) rfl hS.b2 (by rw [Lc.out]; show i * 2 + 2 ≤ 32; omega) sizeCl (by intro v hv; simp only [Cl.l, List.mem_cons, List.not_mem_nil, or_false] at hv; rcases hv with rfl | rfl <;> rfl) ?_; intro x2 kE GE; refine wp_stop ?_))
    have hS := hS.el hi (x := zC) ⟨by show (-9223372036854775808 : Int) ≤ 0; omega, by show (0 : Int) ≤ _; omega⟩ kE GE hw2 (by omega) h45 h58
    have hfin : ∃ c', DoS w x2 g2 g4 g5 g8 c' D.2 ∧ nmF c' = D.1 := ⟨_, by rw [HD.out]; show DoS _ _ _ _ _ _ _ ((nmC ⟨t, n⟩).isSome, (nmC ⟨t, n⟩).getD 0); rw [← Hm.out, nm_some]; exact hS, by rw [HD.out, nm_set]; rfl⟩
    obtain ⟨c', hS, hnm⟩ := hfin
    have Hnm := hid hnm
    have Hin := hid hS.in_
    have Lc := hid (show (cvs c').length = 32 by rw [len_cvs, hS.in_.len])
    clear hnm
    refine wp_go ?_
    go_upto_region 23 with (fail)
    have hBd : Below x2.heap.size x2 x2.drew := (Below.refl _ _).drew
    obtain ⟨wd, hwd⟩ : ∃ x, x = x2.drew := ⟨_, rfl⟩
    rw [← hwd] at hBd
    have h2 := hS.b2.below hBd
    have h8 := hS.b8.below hBd
    have h4 := hS.b4.below hBd
    have h5 := hS.b5.below hBd
    have hB := hS.B.trans (hBd.mono hS.B.size)
    clear hS hBd
    refine wp_region_noPanic ?_
    refine wp_region_any (by kernel_rfl) ?_
    change wpAny _ _ _ _ _ _ _ (World.drew _)
    rw [← hwd]
    clear hwd
    -- T
    refine wpAny_ready (rs := [0, 1]) (by kernel_rfl) (by simp) ?_
    refine AllReady.cons (o := ⟨some 98, .load 24 (.tmp 2), _, _, _, none⟩) rfl (fun K hK => ?_) ?_
    · refine step_ld 24 (.tmp 2) (by rfl) (by rfl) (by rfl) h2.whole Try.underlying24 rfl (by rw [Lc.out]; exact sizeCs) ?_
      refine hK _ _ ?_
      clear hK K
      try simp only [Act.put, List.setIfInBounds_toArray, List.set_cons_zero, List.set_cons_succ]
      refine wpAny_ready (rs := [1, 2]) (by kernel_rfl) (by simp) ?_
      refine AllReady.cons (o := ⟨some 99, .load 30 (.tmp 8), _, _, _, none⟩) rfl (fun K hK => ?_) ?_
      · refine step_ld 30 (.tmp 8) (by rfl) (by rfl) (by rfl) h8.whole Try.underlying30 rfl sizeRs ?_
        refine hK _ _ ?_
        clear hK K
        try simp only [Act.put, List.setIfInBounds_toArray, List.set_cons_zero, List.set_cons_succ]
        refine wpAny_ready (rs := [2]) (by kernel_rfl) (by simp) ?_
        refine AllReady.cons (o := ⟨none, .store 24 (.tmp 4) (.tmp 98), _, _, _, none⟩) rfl (fun K hK => ?_) AllReady.nil
        refine step_st 24 (.tmp 4) (.tmp 98) (by rfl) (by rfl) (by rfl) (f := 0) (by rfl) (l := cvs c') (by rfl) h4 (by rw [Lc.out, len_zCs]; omega) (by rw [Lc.out]; exact sizeCs) (one_cvs _) ?_
        intro x1 k4 G4
        have h4 := blk_all k4 (by rw [Lc.out, len_zCs]; omega)
        have h8 := h8.keep (G4.block _ h8.lt (by intro e; injection e with e; omega))
        have h2 := h2.keep (G4.block _ h2.lt (by intro e; injection e with e; omega))
        have h5 := h5.keep (G4.block _ h5.lt (by intro e; injection e with e; omega))
        have hB := hB.grown G4 hB.size (by intro k hk; injection hk with hk; omega)
        refine hK _ _ ?_
        clear hK K
        try simp only [Act.put, List.setIfInBounds_toArray, List.set_cons_zero, List.set_cons_succ]
        refine wpAny_ready (rs := [3]) (by kernel_rfl) (by simp) ?_
        refine AllReady.cons (o := ⟨none, .store 30 (.tmp 5) (.tmp 99), _, _, _, none⟩) rfl (fun K hK => ?_) AllReady.nil
        refine step_st 30 (.tmp 5) (.tmp 99) (by rfl) (by rfl) (by rfl) (f := 0) (by rfl) (l := rvs D.2) (by rfl) h5 (by show 0 + 2 ≤ 2; omega) sizeRs (one_rvs _) ?_
        intro x2 k5 G5
        have h5 := blk_all k5 (by show 2 ≤ 2; omega)
        have h8 := h8.keep (G5.block _ h8.lt (by intro e; injection e with e; omega))
        have h2 := h2.keep (G5.block _ h2.lt (by intro e; injection e with e; omega))
        have h4 := h4.keep (G5.block _ h4.lt (by intro e; injection e with e; omega))
        have hB := hB.grown G5 hB.size (by intro k hk; injection hk with hk; omega)
        refine hK _ _ ?_
        clear hK K
        try simp only [Act.put, List.setIfInBounds_toArray, List.set_cons_zero, List.set_cons_succ]
        refine wpAny_done (by kernel_rfl) ?_ _
        refine NoPanic.normal ?_
        go_wp2
        refine ret_cell2 rfl rfl rfl h4.whole h5.whole Try.underlying24 rfl (by rw [Lc.out]; exact sizeCs) Try.underlying30 rfl sizeRs rfl ?_
        exact ⟨c', rfl, Hin.out, Hnm.out, hB⟩
      refine AllReady.cons (o := ⟨none, .store 24 (.tmp 4) (.tmp 98), _, _, _, none⟩) rfl (fun K hK => ?_) AllReady.nil
      refine step_st 24 (.tmp 4) (.tmp 98) (by rfl) (by rfl) (by rfl) (f := 0) (by rfl) (l := cvs c') (by rfl) h4 (by rw [Lc.out, len_zCs]; omega) (by rw [Lc.out]; exact sizeCs) (one_cvs _) ?_
      intro x1 k4 G4
      have h4 := blk_all k4 (by rw [Lc.out, len_zCs]; omega)
      have h8 := h8.keep (G4.block _ h8.lt (by intro e; injection e with e; omega))
      have h2 := h2.keep (G4.block _ h2.lt (by intro e; injection e with e; omega))
      have h5 := h5.keep (G4.block _ h5.lt (by intro e; injection e with e; omega))
      have hB := hB.grown G4 hB.size (by intro k hk; injection hk with hk; omega)
      refine hK _ _ ?_
      clear hK K
      try simp only [Act.put, List.setIfInBounds_toArray, List.set_cons_zero, List.set_cons_succ]
      refine wpAny_ready (rs := [1]) (by kernel_rfl) (by simp) ?_
      refine AllReady.cons (o := ⟨some 99, .load 30 (.tmp 8), _, _, _, none⟩) rfl (fun K hK => ?_) AllReady.nil
      refine step_ld 30 (.tmp 8) (by rfl) (by rfl) (by rfl) h8.whole Try.underlying30 rfl sizeRs ?_
      refine hK _ _ ?_
      clear hK K
      try simp only [Act.put, List.setIfInBounds_toArray, List.set_cons_zero, List.set_cons_succ]
      refine wpAny_ready (rs := [3]) (by kernel_rfl) (by simp) ?_
      refine AllReady.cons (o := ⟨none, .store 30 (.tmp 5) (.tmp 99), _, _, _, none⟩) rfl (fun K hK => ?_) AllReady.nil
      refine step_st 30 (.tmp 5) (.tmp 99) (by rfl) (by rfl) (by rfl) (f := 0) (by rfl) (l := rvs D.2) (by rfl) h5 (by show 0 + 2 ≤ 2; omega) sizeRs (one_rvs _) ?_
      intro x2 k5 G5
      have h5 := blk_all k5 (by show 2 ≤ 2; omega)
      have h8 := h8.keep (G5.block _ h8.lt (by intro e; injection e with e; omega))
      have h2 := h2.keep (G5.block _ h2.lt (by intro e; injection e with e; omega))
      have h4 := h4.keep (G5.block _ h4.lt (by intro e; injection e with e; omega))
      have hB := hB.grown G5 hB.size (by intro k hk; injection hk with hk; omega)
      refine hK _ _ ?_
      clear hK K
      try simp only [Act.put, List.setIfInBounds_toArray, List.set_cons_zero, List.set_cons_succ]
      refine wpAny_done (by kernel_rfl) ?_ _
      refine NoPanic.normal ?_
      go_wp2
      refine ret_cell2 rfl rfl rfl h4.whole h5.whole Try.underlying24 rfl (by rw [Lc.out]; exact sizeCs) Try.underlying30 rfl sizeRs rfl ?_
      exact ⟨c', rfl, Hin.out, Hnm.out, hB⟩
    refine AllReady.cons (o := ⟨some 99, .load 30 (.tmp 8), _, _, _, none⟩) rfl (fun K hK => ?_) AllReady.nil
    refine step_ld 30 (.tmp 8) (by rfl) (by rfl) (by rfl) h8.whole Try.underlying30 rfl sizeRs ?_
    refine hK _ _ ?_
    clear hK K
    try simp only [Act.put, List.setIfInBounds_toArray, List.set_cons_zero, List.set_cons_succ]
    refine wpAny_ready (rs := [0]) (by kernel_rfl) (by simp) ?_
    refine AllReady.cons (o := ⟨some 98, .load 24 (.tmp 2), _, _, _, none⟩) rfl (fun K hK => ?_) AllReady.nil
    refine step_ld 24 (.tmp 2) (by rfl) (by rfl) (by rfl) h2.whole Try.underlying24 rfl (by rw [Lc.out]; exact sizeCs) ?_
    refine hK _ _ ?_
    clear hK K
    try simp only [Act.put, List.setIfInBounds_toArray, List.set_cons_zero, List.set_cons_succ]
    refine wpAny_ready (rs := [2]) (by kernel_rfl) (by simp) ?_
    refine AllReady.cons (o := ⟨none, .store 24 (.tmp 4) (.tmp 98), _, _, _, none⟩) rfl (fun K hK => ?_) AllReady.nil
    refine step_st 24 (.tmp 4) (.tmp 98) (by rfl) (by rfl) (by rfl) (f := 0) (by rfl) (l := cvs c') (by rfl) h4 (by rw [Lc.out, len_zCs]; omega) (by rw [Lc.out]; exact sizeCs) (one_cvs _) ?_
    intro x1 k4 G4
    have h4 := blk_all k4 (by rw [Lc.out, len_zCs]; omega)
    have h8 := h8.keep (G4.block _ h8.lt (by intro e; injection e with e; omega))
    have h2 := h2.keep (G4.block _ h2.lt (by intro e; injection e with e; omega))
    have h5 := h5.keep (G4.block _ h5.lt (by intro e; injection e with e; omega))
    have hB := hB.grown G4 hB.size (by intro k hk; injection hk with hk; omega)
    refine hK _ _ ?_
    clear hK K
    try simp only [Act.put, List.setIfInBounds_toArray, List.set_cons_zero, List.set_cons_succ]
    refine wpAny_ready (rs := [3]) (by kernel_rfl) (by simp) ?_
    refine AllReady.cons (o := ⟨none, .store 30 (.tmp 5) (.tmp 99), _, _, _, none⟩) rfl (fun K hK => ?_) AllReady.nil
    refine step_st 30 (.tmp 5) (.tmp 99) (by rfl) (by rfl) (by rfl) (f := 0) (by rfl) (l := rvs D.2) (by rfl) h5 (by show 0 + 2 ≤ 2; omega) sizeRs (one_rvs _) ?_
    intro x2 k5 G5
    have h5 := blk_all k5 (by show 2 ≤ 2; omega)
    have h8 := h8.keep (G5.block _ h8.lt (by intro e; injection e with e; omega))
    have h2 := h2.keep (G5.block _ h2.lt (by intro e; injection e with e; omega))
    have h4 := h4.keep (G5.block _ h4.lt (by intro e; injection e with e; omega))
    have hB := hB.grown G5 hB.size (by intro k hk; injection hk with hk; omega)
    refine hK _ _ ?_
    clear hK K
    try simp only [Act.put, List.setIfInBounds_toArray, List.set_cons_zero, List.set_cons_succ]
    refine wpAny_done (by kernel_rfl) ?_ _
    refine NoPanic.normal ?_
    go_wp2
    refine ret_cell2 rfl rfl rfl h4.whole h5.whole Try.underlying24 rfl (by rw [Lc.out]; exact sizeCs) Try.underlying30 rfl sizeRs rfl ?_
    exact ⟨c', rfl, Hin.out, Hnm.out, hB⟩
    -- T end
end Go.Proofs.Ytjlncgikmpdgdaa
