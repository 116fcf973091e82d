/- UV: laws: two new variables stored at once (x, y := f()), two results that lie in cells, a pair of cells. No project text. -/
import Derived.Test.YtmjpkdehkdpdpaaDoorVA
namespace Go.V
open Go.RowKit
theorem wp_new2st {P : Program} {w : World} {ops : Array Oper} {rest : List Oper} {o1 o2 o3 o4 : Oper} {a : Act} {Q : Exit → Act → World → Prop} (tA tB : TypeId) (dA dB : Nat) (yA yB : Operand) (hg1 : o1.guard = none) (hg2 : o2.guard = none) (hg3 : o3.guard = none) (hg4 : o4.guard = none)
    (ho1 : o1.op = .alloc tA) (hd1 : o1.dst = some dA) (ho2 : o2.op = .alloc tB) (hd2 : o2.dst = some dB) (ho3 : o3.op = .store tA (.tmp dA) yA) (hd3 : o3.dst = none) (ho4 : o4.op = .store tB (.tmp dB) yB) (hd4 : o4.dst = none)
    {zA zB lA lB : List Value} (hzA : (P.info? tA).map (·.zero) = some (some (.agg zA.toArray))) (hzB : (P.info? tB).map (·.zero) = some (some (.agg zB.toArray)))
    (hpA : ∀ gA gB : Nat, ((a.put (some dA) (.pointer (some ⟨gA, 0, none⟩))).put (some dB) (.pointer (some ⟨gB, 0, none⟩))).eval (.tmp dA) = .pointer (some ⟨gA, 0, none⟩)) (hpB : ∀ gA gB : Nat, ((a.put (some dA) (.pointer (some ⟨gA, 0, none⟩))).put (some dB) (.pointer (some ⟨gB, 0, none⟩))).eval (.tmp dB) = .pointer (some ⟨gB, 0, none⟩))
    (hyA : ∀ gA gB : Nat, ((a.put (some dA) (.pointer (some ⟨gA, 0, none⟩))).put (some dB) (.pointer (some ⟨gB, 0, none⟩))).eval yA = .agg lA.toArray) (hyB : ∀ gA gB : Nat, ((a.put (some dA) (.pointer (some ⟨gA, 0, none⟩))).put (some dB) (.pointer (some ⟨gB, 0, none⟩))).eval yB = .agg lB.toArray)
    (hlA : zA.length = lA.length) (hlB : zB.length = lB.length) (hiA : (P.info? tA).map (·.size) = some lA.length) (hiB : (P.info? tB).map (·.size) = some lB.length) (h1A : ∀ v ∈ lA, v.oneCell' = true) (h1B : ∀ v ∈ lB, v.oneCell' = true)
    (h : ∀ (gA gB : Nat) (w' : World), Blk w' gA tA lA → Blk w' gB tB lB → gA ≠ gB → w.heap.size ≤ gA → w.heap.size ≤ gB → Below w.heap.size w w' → wpList P ops Q rest ((a.put (some dA) (.pointer (some ⟨gA, 0, none⟩))).put (some dB) (.pointer (some ⟨gB, 0, none⟩))) w') :
    wpList P ops Q (o1 :: o2 :: o3 :: o4 :: rest) a w := by
  refine wp_new tA hg1 ho1 hzA ?_
  rw [hd1]
  refine wp_new tB hg2 ho2 hzB ?_
  rw [hd2]
  have bA := Blk.new' w tA zA
  have B0 : Below w.heap.size w (w.alloc (.cells zA.toArray tA)) := (Below.refl _ _).alloc (Nat.le_refl _) _
  have hs : (w.alloc (.cells zA.toArray tA)).heap.size = w.heap.size + 1 := by simp
  have bB := Blk.new' (w.alloc (.cells zA.toArray tA)) tB zB
  have B1 : Below (w.alloc (.cells zA.toArray tA)).heap.size (w.alloc (.cells zA.toArray tA)) ((w.alloc (.cells zA.toArray tA)).alloc (.cells zB.toArray tB)) := (Below.refl _ _).alloc (Nat.le_refl _) _
  have bA := bA.below B1
  have B2 := B0.trans (B1.mono B0.size)
  rw [hs] at bB ⊢
  refine wp_st tA (.tmp dA) yA hg3 ho3 hd3 (f := 0) (hpA _ _) (hyA _ _) bA (by omega) hiA h1A (fun w1 b1 G1 => ?_)
  have b1 : Blk w1 w.heap.size tA lA := by
    rw [List.take_zero, List.nil_append, List.drop_eq_nil_of_le (by omega), List.append_nil] at b1
    exact b1
  have bB := bB.keep (G1.block _ bB.lt (by intro e; injection e with e; omega))
  refine wp_st tB (.tmp dB) yB hg4 ho4 hd4 (f := 0) (hpB _ _) (hyB _ _) bB (by omega) hiB h1B (fun w2 b2 G2 => ?_)
  have b2 : Blk w2 (w.heap.size + 1) tB lB := by
    rw [List.take_zero, List.nil_append, List.drop_eq_nil_of_le (by omega), List.append_nil] at b2
    exact b2
  have b1 := b1.keep (G2.block _ b1.lt (by intro e; injection e with e; omega))
  exact h _ _ w2 b1 b2 (by omega) (Nat.le_refl _) (by omega) ((B2.grown G1 B2.size (by intro k hk; injection hk with hk; omega)).grown G2 (Nat.le_trans B2.size G1.size) (by intro k hk; injection hk with hk; omega))
/-- the end of a function of two results, both of which lie in cells -/
theorem ret_cell2 {P : Program} {fn : Func} {R : Ending → World → Prop} {a : Act} {w : World} {p q : Tmp} {ty tz : TypeId} (hf : fn.results = #[.cell p ty, .cell q tz]) {b f b2 f2 : Nat} (hp : a.tmps.getD p undef = .pointer (some ⟨b, f, none⟩)) (hq : a.tmps.getD q undef = .pointer (some ⟨b2, f2, none⟩)) {l l2 : List Value} (hr : w.rangeAt b f l) (hr2 : w.rangeAt b2 f2 l2)
    {d d2 : TypeDesc} (hu : P.underlying ty = some d) (hd : d.isRow = true) (hi : (P.info? ty).map (·.size) = some l.length) (hu2 : P.underlying tz = some d2) (hd2 : d2.isRow = true) (hi2 : (P.info? tz).map (·.size) = some l2.length) (hdf : a.defers = []) (h : R (.returned (.tuple #[.agg l.toArray, .agg l2.toArray])) w) : bodyPost P fn R .ret a w := by
  refine bodyPost_ret (v := .tuple #[.agg l.toArray, .agg l2.toArray]) ?_ hdf h
  have hp' : a.tmps[p]?.getD undef = .pointer (some ⟨b, f, none⟩) := by simpa using hp
  have hq' : a.tmps[q]?.getD undef = .pointer (some ⟨b2, f2, none⟩) := by simpa using hq
  simp [results, hf, hp', hq', asAddr, run_loadVar_mid w b f ty l d hr hu hd hi, run_loadVar_mid w b2 f2 tz l2 d2 hr2 hu2 hd2 hi2]
theorem wp_ixpg {P : Program} {w : World} {ops : Array Oper} {rest : List Oper} {o : Oper} {a : Act} {Q : Exit → Act → World → Prop} (t : TypeId) (x y : Operand) (hw : Region.wanted o (yielded ops a.tmps) = true) (ho : o.op = .indexAddr t x y) {g off n : Nat} (hx : a.eval x = .pointer (some ⟨g, off, none⟩)) {i : Nat} (hy : a.eval y = .int .i64 (i : Int))
    {e : TypeId} (hu : P.underlying t = some (.array n e)) (hi : i < n) {s : Nat} (hsz : (P.info? e).map (·.size) = some s)
    (h : wpList P ops Q rest (a.put o.dst (.pointer (some ⟨g, off + i * s, none⟩))) w) : wpList P ops Q (o :: rest) a w := by
  refine wpList_step fun K hK => ?_
  rw [if_pos hw]
  cases hq : P.info? e with
  | none => simp [hq] at hsz
  | some f =>
    have hs : f.size = s := by simpa [hq] using hsz
    have h1 : (0 : Int) ≤ (i : Int) ∧ (i : Int) < (n : Int) := by omega
    have hr : (Instr.indexAt t (.pointer (some ⟨g, off, none⟩)) (.int .i64 (i : Int))).run P w = .ok (.pointer (some ⟨g, off + i * s, none⟩)) w := by
      simp [Instr.indexAt, asIntOf, run_underlying hu, sizeOf, typeInfo, hq, hs, h1, add_mk, Instr.sureAddr]
      intro hh
      exact absurd hh (by omega)
    unfold Oper.wp execOp
    simp only [ho, hx, hy, Sem.run_bind, Sem.run_pure, hr, Result.andThen_ok]
    exact hK _ _ h
/-- 'x, y := f()' where x is there already: a new variable, and both stored -/
theorem wp_new1st2 {P : Program} {w : World} {ops : Array Oper} {rest : List Oper} {o1 o2 o3 : Oper} {a : Act} {Q : Exit → Act → World → Prop} (tA tB : TypeId) (dB : Nat) (x yA yB : Operand) (hg1 : o1.guard = none) (hg2 : o2.guard = none) (hg3 : o3.guard = none)
    (ho1 : o1.op = .alloc tB) (hd1 : o1.dst = some dB) (ho2 : o2.op = .store tA x yA) (hd2 : o2.dst = none) (ho3 : o3.op = .store tB (.tmp dB) yB) (hd3 : o3.dst = none)
    {gA : Nat} {tA' : TypeId} {csA zB lA lB : List Value} (hzB : (P.info? tB).map (·.zero) = some (some (.agg zB.toArray)))
    (hpA : ∀ gB : Nat, (a.put (some dB) (.pointer (some ⟨gB, 0, none⟩))).eval x = .pointer (some ⟨gA, 0, none⟩)) (hpB : ∀ gB : Nat, (a.put (some dB) (.pointer (some ⟨gB, 0, none⟩))).eval (.tmp dB) = .pointer (some ⟨gB, 0, none⟩))
    (hyA : ∀ gB : Nat, (a.put (some dB) (.pointer (some ⟨gB, 0, none⟩))).eval yA = .agg lA.toArray) (hyB : ∀ gB : Nat, (a.put (some dB) (.pointer (some ⟨gB, 0, none⟩))).eval yB = .agg lB.toArray)
    (hbA : Blk w gA tA' csA) (hlA : csA.length = lA.length) (hlB : zB.length = lB.length) (hiA : (P.info? tA).map (·.size) = some lA.length) (hiB : (P.info? tB).map (·.size) = some lB.length) (h1A : ∀ v ∈ lA, v.oneCell' = true) (h1B : ∀ v ∈ lB, v.oneCell' = true)
    (h : ∀ (gB : Nat) (w' : World), Blk w' gA tA' lA → Blk w' gB tB lB → w.heap.size ≤ gB → Ch (fun y => y = gA) w w' → wpList P ops Q rest (a.put (some dB) (.pointer (some ⟨gB, 0, none⟩))) w') :
    wpList P ops Q (o1 :: o2 :: o3 :: rest) a w := by
  refine wp_new tB hg1 ho1 hzB ?_
  rw [hd1]
  have bB := Blk.new' w tB zB
  have B0 : Below w.heap.size w (w.alloc (.cells zB.toArray tB)) := (Below.refl _ _).alloc (Nat.le_refl _) _
  have hbA := hbA.below B0
  have hlt : gA < w.heap.size := by
    have := hbA.lt
    by_cases h : gA = w.heap.size
    · exact absurd (‹Blk w gA tA' csA›.lt) (by omega)
    · simp at this; omega
  refine wp_st tA x yA hg2 ho2 hd2 (f := 0) (hpA _) (hyA _) hbA (by omega) hiA h1A (fun w1 b1 G1 => ?_)
  have b1 : Blk w1 gA tA' lA := by
    rw [List.take_zero, List.nil_append, List.drop_eq_nil_of_le (by omega), List.append_nil] at b1
    exact b1
  have bB := bB.keep (G1.block _ bB.lt (by intro e; injection e with e; omega))
  refine wp_st tB (.tmp dB) yB hg3 ho3 hd3 (f := 0) (hpB _) (hyB _) bB (by omega) hiB h1B (fun w2 b2 G2 => ?_)
  have b2 : Blk w2 w.heap.size tB lB := by
    rw [List.take_zero, List.nil_append, List.drop_eq_nil_of_le (by omega), List.append_nil] at b2
    exact b2
  have b1 := b1.keep (G2.block _ b1.lt (by intro e; injection e with e; omega))
  have C0 : Ch (fun y => y = gA) w (w.alloc (.cells zB.toArray tB)) := (Ch.of_below B0).weaken (fun _ _ e => e.elim)
  have C1 := C0.grow G1 (fun k hk => by injection hk with hk; exact .inl hk.symm)
  have C2 := C1.grow G2 (fun k hk => by injection hk with hk; exact .inr (by omega))
  exact h _ w2 b1 b2 (Nat.le_refl _) C2
theorem alloc2 (w : World) (tA tB : TypeId) (lA lB : List Value) : ∃ W, W = ((w.alloc (.cells lA.toArray tA)).alloc (.cells lB.toArray tB)) ∧ Blk W w.heap.size tA lA ∧ Blk W (w.heap.size + 1) tB lB ∧ Below w.heap.size w W := by
  refine ⟨_, rfl, ?_⟩
  have a1 := Blk.new' w tA lA
  have B1 : Below w.heap.size w (w.alloc (.cells lA.toArray tA)) := (Below.refl _ _).alloc (Nat.le_refl _) _
  obtain ⟨w1, h1⟩ : ∃ x, x = w.alloc (.cells lA.toArray tA) := ⟨_, rfl⟩
  have s1 : w1.heap.size = w.heap.size + 1 := by rw [h1]; simp
  rw [← h1] at a1 B1 ⊢
  clear h1
  have a2 := Blk.new' w1 tB lB
  have B2 : Below w1.heap.size w1 (w1.alloc (.cells lB.toArray tB)) := (Below.refl _ _).alloc (Nat.le_refl _) _
  rw [← s1]
  exact ⟨a1.below B2, a2, B1.trans (B2.mono (by omega))⟩
theorem alloc3 (w : World) (tA tB tC : TypeId) (lA lB lC : List Value) : ∃ W, W = (((w.alloc (.cells lA.toArray tA)).alloc (.cells lB.toArray tB)).alloc (.cells lC.toArray tC)) ∧ Blk W w.heap.size tA lA ∧ Blk W (w.heap.size + 1) tB lB ∧ Blk W (w.heap.size + 1 + 1) tC lC ∧ Below w.heap.size w W := by
  refine ⟨_, rfl, ?_⟩
  have a1 := Blk.new' w tA lA
  have B1 : Below w.heap.size w (w.alloc (.cells lA.toArray tA)) := (Below.refl _ _).alloc (Nat.le_refl _) _
  obtain ⟨w1, h1⟩ : ∃ x, x = w.alloc (.cells lA.toArray tA) := ⟨_, rfl⟩
  have s1 : w1.heap.size = w.heap.size + 1 := by rw [h1]; simp
  rw [← h1] at a1 B1 ⊢
  clear h1
  have a2 := Blk.new' w1 tB lB
  have B2 : Below w1.heap.size w1 (w1.alloc (.cells lB.toArray tB)) := (Below.refl _ _).alloc (Nat.le_refl _) _
  obtain ⟨w2, h2⟩ : ∃ x, x = w1.alloc (.cells lB.toArray tB) := ⟨_, rfl⟩
  have s2 : w2.heap.size = w1.heap.size + 1 := by rw [h2]; simp
  rw [← h2] at a2 B2 ⊢
  clear h2
  have a3 := Blk.new' w2 tC lC
  have B3 : Below w2.heap.size w2 (w2.alloc (.cells lC.toArray tC)) := (Below.refl _ _).alloc (Nat.le_refl _) _
  have e3 : w2.heap.size = w.heap.size + 1 + 1 := by omega
  rw [← e3, ← s1]
  exact ⟨(a1.below B2).below B3, a2.below B3, a3, (B1.trans (B2.mono (by omega))).trans (B3.mono (by omega))⟩
end Go.V
