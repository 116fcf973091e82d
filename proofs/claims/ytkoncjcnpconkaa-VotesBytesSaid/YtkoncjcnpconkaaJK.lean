/- JK: layer 13: the keys of what was written, in their order: slices.SortedFunc(maps.Keys(m), regency.compare). -/
import Derived.Test.YtkoncjcnpconkaaJD
import Derived.Test.YtkoncjcnpconkaaIn
import Derived.Test.YtkoncjcnpconkaaSrtP
import Derived.RangeFuncFrom
import Derived.RangeFuncNested
import Derived.RangeFuncBound
import Derived.RangeFuncCalls
import Derived.RangeFuncLeaves
import Derived.RangeFuncBox
import Derived.Shelf.Abstract
import Derived.Shelf.RegionOpen
import Derived.WalkKit
import Derived.OwnWalkIn
import Derived.TacticsInMore
import Derived.LoopNIn
import Derived.LoopIn
namespace Go.V
open Go.Proofs Go.RowKit Go.Maps Go.ChangeShapes Go.WideShapes Go.ChangeMaps
theorem twoRg : TwoInts Try.prog 78 where
  fs := ⟨_, _, Try.underlying78, by rfl, by rfl, by decide, by decide, Try.underlying3, Try.underlying3, by kernel_rfl, by kernel_rfl⟩
  kt := by kernel_rfl
  two := by kernel_rfl
  row := of_decide_eq_true (by kernel_rfl)
  laid := by kernel_rfl
  deep := by kernel_rfl
/-- the map of what was written -/
noncomputable def wrM : MK Try.prog 78 K2 Vt := twoRg.mk' vtD.V (fun h hF => WD.V_keep h hF)
theorem zVote (w : World) : (zeroValue 27).run Try.prog w = .ok (zV.val (.slice none 0 0) (.slice none 0 0)) w := by kernel_rfl
/-- a key's cells -/
def K2.cs (x : K2) : List Value := [.int .i64 x.1.1, .int .i64 x.1.2]
theorem one_k2 (x : K2) : ∀ v ∈ x.cs, v.oneCell' = true := by
  intro v hv
  simp only [K2.cs, List.mem_cons, List.not_mem_nil, or_false] at hv
  rcases hv with rfl | rfl <;> rfl
def K2.rows (l : List K2) : List Value := l.flatMap K2.cs
instance : Inhabited K2 := ⟨⟨(0, 0), by decide, by decide⟩⟩
theorem k2_ext {x y : K2} (h1 : x.1.1 = y.1.1) (h2 : x.1.2 = y.1.2) : x = y := Subtype.ext (Prod.ext h1 h2)
open Go.Shelf Go.Sort in
theorem ltK {x y : K2} : ltOf cmpK x y = true ↔ x.1.1 < y.1.1 ∨ x.1.1 = y.1.1 ∧ x.1.2 < y.1.2 := by
  unfold ltOf
  rw [decide_eq_true_iff]
  unfold cmpK orZ cmpZ
  repeat' split
  all_goals omega
open Go.Shelf Go.Sort in
theorem ltK_no {x y : K2} : ltOf cmpK x y = false ↔ ¬ (x.1.1 < y.1.1 ∨ x.1.1 = y.1.1 ∧ x.1.2 < y.1.2) := by
  rw [← ltK]
  cases ltOf cmpK x y <;> simp
open Go.Shelf Go.Sort in
theorem swoK : SWO (ltOf cmpK) where
  irrefl x := by rw [ltK_no]; omega
  trans x y z h1 h2 := by rw [ltK] at *; omega
  ntrans x y z h1 h2 := by rw [ltK_no] at *; omega
open Go.Shelf Go.Sort in
theorem totK (x y : K2) (h1 : ltOf cmpK x y = false) (h2 : ltOf cmpK y x = false) : x = y := by
  rw [ltK_no] at h1 h2
  exact k2_ext (by omega) (by omega)
/-- the keys, rising -/
def K2.sorted (l : List K2) : List K2 := l.mergeSort fun x y => !(ltOf cmpK) y x
theorem rows_at : ∀ (l : List K2) (j : Nat) (x : K2), l[j]? = some x → (K2.rows l)[2 * j]? = some (.int .i64 x.1.1) ∧ (K2.rows l)[2 * j + 1]? = some (.int .i64 x.1.2)
  | [], j, x, h => by simp at h
  | y :: l, 0, x, h => by simp at h; subst h; exact ⟨rfl, rfl⟩
  | y :: l, j + 1, x, h => by
    have := rows_at l j x (by simpa using h)
    have e : K2.rows (y :: l) = .int .i64 y.1.1 :: .int .i64 y.1.2 :: K2.rows l := rfl
    rw [e, show 2 * (j + 1) = 2 * j + 1 + 1 from by omega, List.getElem?_cons_succ, List.getElem?_cons_succ, show 2 * j + 1 + 1 + 1 = (2 * j + 1) + 1 + 1 from rfl, List.getElem?_cons_succ, List.getElem?_cons_succ]
    exact this
theorem rows_len : ∀ (l : List K2), (K2.rows l).length = l.length * 2
  | [] => rfl
  | y :: l => by
    have e : K2.rows (y :: l) = .int .i64 y.1.1 :: .int .i64 y.1.2 :: K2.rows l := rfl
    rw [e, List.length_cons, List.length_cons, rows_len l, List.length_cons]
    omega
open Go.Sort in
theorem flat_rows (l : List K2) : flatK K2.cs 2 l.toArray = (K2.rows l).toArray := by
  refine ext_get! (by rw [size_flatK]; simp [rows_len]) fun t ht => ?_
  rw [size_flatK] at ht
  rw [get_flatK _ _ _ _ ht]
  have ht' : t < l.length * 2 := by simpa using ht
  have hj : t / 2 < l.length := by omega
  obtain ⟨x, hx⟩ : ∃ x, l[t / 2]? = some x := ⟨_, List.getElem?_eq_getElem hj⟩
  have e1 : l.toArray[t / 2]! = x := by
    rw [getElem!_pos _ _ (by simpa using hj)]
    simp only [List.getElem_toArray]
    rw [List.getElem?_eq_getElem hj] at hx
    injection hx
  obtain ⟨h0, h1⟩ := rows_at l (t / 2) x hx
  have e2 : (K2.rows l).toArray[t]! = ((K2.rows l)[t]?).getD default := by
    rw [Array.getElem!_eq_getD]
    simp [Array.getD_eq_getD_getElem?]
  rw [e1, e2]
  rcases Nat.mod_two_eq_zero_or_one t with h | h
  · rw [h, show t = 2 * (t / 2) from by omega, h0]; rfl
  · rw [h, show t = 2 * (t / 2) + 1 from by omega, h1]; rfl
open Go.Sort in
theorem take_rows (cur : Array Value) (l : List K2) (h : l.length * 2 ≤ cur.size) : (putCells id 0 (flatK K2.cs 2 l.toArray) cur).toList.take (l.length * 2) = K2.rows l := by
  rw [flat_rows]
  apply List.ext_getElem?
  intro j
  by_cases hj : j < l.length * 2
  · rw [List.getElem?_take_of_lt hj, Array.getElem?_toList]
    have hr : j < (K2.rows l).length := by rw [rows_len]; exact hj
    simp [putCells, hr, show j < cur.size by omega]
  · rw [List.getElem?_take_eq_none (by omega), List.getElem?_eq_none (by rw [rows_len]; omega)]
end Go.V
namespace Go.Proofs.Ytkoncjcnpconkaa
open Go.RowKit Go.V
attribute [local go_sem] Oper.semAt_some
theorem slRg : SlW Try.prog 75 78 [.int .i64 0, .int .i64 0] 2 16 := .of Try.underlying75 (by kernel_rfl) rfl (by omega) (by omega)
set_option maxRecDepth 100000 in
set_option maxHeartbeats 2000000 in
theorem keys13_any (mb : Option Nat) (w : World) : Calls Try.prog 47 #[.map mb] w fun e w' => e = .returned (.func (.func 67) #[] #[.pointer (some ⟨w.heap.size, 0, none⟩)]) ∧ w' = w.alloc (.cells #[.map mb] 64) := by
  go_enter Try.func47, Try.ntmps47
  go_wp2
  go_ret
  exact ⟨rfl, rfl⟩
set_option maxRecDepth 100000 in
set_option maxHeartbeats 2000000 in
theorem keysIt13 (n : Nat) (hn : 1 ≤ n) (Bm b : Nat) (L : List (K2 × Vt)) (w : World) (hBm : Bm < w.heap.size) (hm : w.cell? ⟨Bm, 0, none⟩ = some (.map (some b))) (hM : MS wrM.keys w nob b L) :
    SeqStopsK Fence.wide n Try.prog 67 #[.pointer (some ⟨Bm, 0, none⟩)] (fun x : K2 => #[x.v]) KeepsWalks (fun ss => ss.Perm (L.map (·.1))) (fun _ => True) L.length w := by
  intro l J Jx W hW hJ hJx hY h0
  have hm' : W.cell? ⟨Bm, 0, none⟩ = some (.map (some b)) := (hW.cell (p := ⟨Bm, 0, none⟩) hBm).trans hm
  have hM' := hM.below hW
  clear hm hM hW
  refine callsIn_of_wp Try.func67 rfl trivial ?_ rfl
  simp only [Try.ntmps67, List.size_toArray, List.length_cons, List.length_nil, Nat.reduceAdd, Nat.reduceSub, Array.replicate_succ, Array.replicate_zero, List.push_toArray, List.append_toArray, List.nil_append, List.cons_append]
  gi_wp2_with (first | (gi_at_range; refine wpIn_rangeS 64 27 (.tmp 4) rfl rfl Try.underlying64 rfl hM' ?_; intro w0 hR0 hg0 hs0) | gi_in)
  try go_frame
  obtain ⟨it, hit⟩ : ∃ it, it = W.heap.size := ⟨_, rfl⟩
  have hJ0 : J [] w0 := hJ [] W w0 none h0 hg0 (fun r e => by cases e)
  rw [← hit] at hR0 hJ ⊢
  clear hs0 hg0 h0 hM' hit
  gi_loopw [3] (fun _ wr => ∃ dn rs : List (K2 × Vt), RS wrM.keys wr nob b it dn rs ∧ Hid ((dn.map (·.1) ++ rs.map (·.1)).Perm (L.map (·.1))) ∧ Hid (dn.length + rs.length = L.length) ∧ J (dn.map (·.1)) wr) (fun _ wr => wr.rangeLeft b it)
  case atStart => exact ⟨[], L, hR0, List.Perm.refl _, by simp [Hid], hJ0⟩
  case round =>
    clear hR0 hJ0
    obtain ⟨dn, rs, hR, hp, hl, hJs⟩ := hrel
    gi_wp2_with (first | (gi_at_next; refine wpIn_nextS (.tmp 5) rfl rfl rfl hR (fun h => h) ?_ ?_) | gi_in)
    · intro hrs
      subst hrs
      gi_wp2
      go_end0
      exact ⟨⟨_, rfl⟩, .inl ⟨dn.map (·.1), by simpa using hp.out, hJs⟩⟩
    · intro f mv rs' v w2 hpp hR2 _ hlt hg2 hs2 hen
      have hJ2 : J (dn.map (·.1)) w2 := hJ _ wr w2 (some it) hJs hg2 (fun r e => by cases e; exact ⟨Nat.le_refl _, hR.walk.2⟩)
      replace hen : (Instr.entry (.pointer (some ⟨it, 0, none⟩))).run Try.prog w2 = .ok (.tuple #[.agg #[.int .i64 f.1.1, .int .i64 f.1.2], v]) w2 := hen
      obtain ⟨w3, hw3⟩ : ∃ w3, w3 = w2.alloc (.cells [Value.int .i64 f.1.1, .int .i64 f.1.2].toArray 78) := ⟨_, rfl⟩
      have hbq : Blk w3 w2.heap.size 78 [.int .i64 f.1.1, .int .i64 f.1.2] := by rw [hw3]; exact Blk.new' w2 _ _
      have hJ3 : J (dn.map (·.1)) w3 := by rw [hw3]; exact hJ _ w2 _ none hJ2 (World.grownBy_alloc w2 _ none) (fun r e => by cases e)
      have hR3 : RS wrM.keys w3 nob b it (dn ++ [(f, mv)]) rs' := by
        rw [hw3]
        exact (hR2.keep (Below.heap_alloc _ _ b hR2.owns.lt) (Below.heap_alloc _ _ it (by obtain ⟨o, ho, _⟩ := hR2.walk.2; exact lt_of_block ho)) (fun _ _ h => h.elim)).1
      have hlt3 : w3.rangeLeft b it < wr.rangeLeft b it := by
        have := (hR2.keep (w' := w3) (F' := nob) (by rw [hw3]; exact Below.heap_alloc _ _ b hR2.owns.lt) (by rw [hw3]; exact Below.heap_alloc _ _ it (by obtain ⟨o, ho, _⟩ := hR2.walk.2; exact lt_of_block ho)) (fun _ _ h => h.elim)).2
        rw [this]
        exact hlt
      have hpl := hpp.length_eq
      simp only [List.length_cons] at hpl
      have hll := hl.out
      obtain ⟨fn, tmps, assign, body, hy, hYR⟩ := hY (dn.map (·.1)) f w3 hJ3 (by rw [List.length_map]; omega)
      replace hy : _ := hy
      dsimp only [K2.v] at hy
      have Hpp := hid hpp
      have Hll : Hid ((dn ++ [(f, mv)]).length + rs'.length = L.length) := by show _ = _; rw [List.length_append, List.length_singleton]; omega
      have HR3 := hid hR3
      have Hlt3 := hid hlt3
      have Hw3 := hid hw3
      have c0 := hbq.cellAt 0 _ rfl
      have c1 := hbq.cellAt 1 _ rfl
      clear hJ2 hJ3 hR2 hR hlt hlt3 hR3 hpl hll hl hpp hs2 hJs hw3
      gi_wp2_with (first | (refine wpIn_newst 78 3 (.tmp 9) rfl rfl rfl rfl rfl rfl zeroRg (l := [.int .i64 f.1.1, .int .i64 f.1.2]) rfl rfl sizeRg (by simp [Value.oneCell']) (by simp) ?_; rw [← Hw3.out]) | gi_in)
      refine hYR.mono ?_
      rintro e W3 (⟨rfl, hJ4, hk4⟩ | ⟨rfl, hJx4⟩)
      · have hR4 : RS wrM.keys W3 nob b it (dn ++ [(f, mv)]) rs' ∧ W3.rangeLeft b it = w3.rangeLeft b it := by
          obtain ⟨⟨o1, h1, h2⟩, o2, h3, h4⟩ := HR3.out.walk
          exact HR3.out.keep ((hk4.same _ _ h1 h2).trans h1.symm) ((hk4.same _ _ h3 h4).trans h3.symm) (fun _ _ h => h.elim)
        have Hlt4 : Hid (W3.rangeLeft b it < wr.rangeLeft b it) := by show _ < _; rw [hR4.2]; exact Hlt3.out
        have HR4 := hid hR4.1
        have Hperm : Hid (((dn ++ [(f, mv)]).map (·.1) ++ rs'.map (·.1)).Perm (L.map (·.1))) := by
          show List.Perm _ _
          refine List.Perm.trans ?_ hp.out
          rw [List.map_append, List.append_assoc]
          exact ((Hpp.out.map (·.1)).symm).append_left _
        have HJ4 : Hid (J ((dn ++ [(f, mv)]).map (·.1)) W3) := by show J _ _; rw [List.map_append]; exact hJ4
        clear hR4 hJ4 hk4 hbq c0 c1 hen Hw3
        gi_wp2
        go_roundw
        case rel => exact ⟨_, _, HR4.out, Hperm, Hll, HJ4.out⟩
        case measure => exact Hlt4.out
      · clear hbq c0 c1 hen Hw3
        gi_wp2
        refine bodyPost_ret (results_none rfl _ _ _) rfl ?_
        exact ⟨⟨_, rfl⟩, .inr ⟨_, trivial, hJx4⟩⟩
set_option maxRecDepth 100000 in
set_option maxHeartbeats 4000000 in
theorem appSeq13 (g : Nat) (lb : Array Value) (eg : ∀ args w, (callFunc g args).run Try.prog w = .ok (.enter g args) w) (L : List K2) (hL : L.length ≤ 1000000) (w : World)
    (hseq : SeqStopsK Fence.wide 4 Try.prog g lb (fun x : K2 => #[x.v]) KeepsWalks (fun ss => ss.Perm L) (fun _ => True) L.length w) :
    CallsIn Fence.wide 5 Try.prog 77 #[.slice none 0 0, .func (.func g) #[] lb] w fun e w' => ∃ v ss, e = .returned v ∧ ss.Perm L ∧ w'.ownsRow w.heap.size 78 2 v ss.length (K2.rows ss) ∧ Below w.heap.size w w' := by
  refine callsIn_of_wp_marks Try.func77 rfl trivial ?_ rfl
  simp only [Try.ntmps77, List.size_toArray, List.length_cons, List.length_nil, Nat.reduceAdd, Nat.reduceSub, Array.replicate_succ, Array.replicate_zero, List.push_toArray, List.append_toArray, List.nil_append, List.cons_append]
  have bO := Boxed.new w 75 (.slice none 0 0)
  have hB0 : Below w.heap.size w (w.alloc (.cells #[.slice none 0 0] 75)) := (Below.refl _ w).alloc (Nat.le_refl _) _
  gi_wp2
  obtain ⟨w0, hw0⟩ : ∃ w0, w0 = w.alloc (.cells #[.slice none 0 0] 75) := ⟨_, rfl⟩
  have hs0 : w0.heap.size = w.heap.size + 1 := by rw [hw0]; simp
  rw [← hw0] at bO hB0 ⊢
  clear hw0
  obtain ⟨B, hB⟩ : ∃ B, B = w.heap.size := ⟨_, rfl⟩
  rw [← hB] at bO ⊢
  have hBw : w.heap.size ≤ B := by omega
  have hBw0 : B < w0.heap.size := by omega
  clear hB
  refine wpIn_rangeFunc_ownH (α := K2) rfl (by omega) (gf := g) (lb := lb) rfl trivial eg hseq walksK_t walksK_b hB0 (fun _ => rfl)
    (fun pre W => (∃ v, Boxed W B 75 v ∧ W.ownsRow w.heap.size 78 2 v pre.length (K2.rows pre) ∧ True) ∧ Below w.heap.size w W)
    (fun _ _ _ => False)
    (OwnFrom.and (Own.from (holdsRow_own w.heap.size B 75 78 2 (fun pre => pre.length) (fun pre => K2.rows pre) (fun _ _ => True)) _) (ownFrom_below (Nat.le_refl _) (by omega)))
    (fun _ => ownFrom_pure _ (fun _ => False))
    ⟨⟨_, bO, World.ownsRow_nil _ _ _ _, trivial⟩, hB0⟩
    (fun x a' W => ∃ Bx, Blk W Bx 78 x.cs ∧ a' = { tmps := #[.slice none 0 0, .func (.func g) #[] lb, .pointer (some ⟨B, 0, none⟩), undef, .slice none 0 0, .pointer (some ⟨Bx, 0, none⟩), .func (.func g) #[] lb, x.v, undef, undef, undef, undef, undef], defers := [] })
    ?hAx ?assign ?body ?done ?stop
  case hAx =>
    rintro x a' _ W W' row ⟨Bx, hb, ha⟩ hg hr
    refine ⟨Bx, hb.keep (hg.block Bx hb.lt (fun e => ?_)), ha⟩
    obtain ⟨_, o, ho, hc⟩ := hr Bx e.symm
    rw [show W.heap[Bx]? = _ from hb] at ho
    cases ho
    cases hc
  case assign =>
    rintro l pre x W K ⟨⟨v, hv, hro, _⟩, hBl⟩ hK
    dsimp only [K2.v]
    gi_wp2_with (first | (refine wpIn_newst 78 5 (.tmp 7) rfl rfl rfl rfl rfl rfl zeroRg (l := [.int .i64 x.1.1, .int .i64 x.1.2]) rfl rfl sizeRg (by simp [Value.oneCell']) (by simp) ?_) | gi_in)
    exact hK _ _ ((KeepsOthers.alloc W _).from _) (KeepsWalks.alloc W _) ⟨⟨v, hv.alloc _, hro.alloc _, trivial⟩, hBl.alloc hBl.size _⟩ ⟨W.heap.size, Blk.new' W _ [.int .i64 x.1.1, .int .i64 x.1.2], rfl⟩
  case body =>
    rintro l pre x a' W hl hr ⟨⟨v, hv, hro, _⟩, hBl⟩ ⟨Bx, hb, rfl⟩ hlt
    have hc := hv.cell
    have c0 := hb.cellAt 0 _ rfl
    have c1 := hb.cellAt 1 _ rfl
    dsimp only [K2.v]
    gi_wp2_with (first | (refine wpIn_pushW (.tmp 8) (.tmp 9) 10 slRg rfl rfl rfl rfl rfl (us := x.cs) rfl rfl (one_k2 x) (by simp) rfl hro (by simp only [maxLen]; omega) (by omega) hBl.size ?_; intro v' w1 hown' hg1 hg2; obtain ⟨g', cap', rfl⟩ := ownsRow_succ hown'; obtain ⟨hv1, hv2, hr2, hk2, hb2⟩ := hv.appended (by decide) hro hBl.size hBw hown' hg1; have hc1 := hv1.cell; have hf1 := hv1.frozen) | gi_in)
    refine ⟨hk2.from _, hk2.walks, ⟨⟨_, hv2, ?_, trivial⟩, hBl.trans hb2⟩⟩
    rw [List.length_append]
    rw [show K2.rows (pre ++ [x]) = K2.rows pre ++ x.cs from by simp [K2.rows]]
    exact hr2
  case done =>
    rintro D ss W hD hS ⟨⟨v, hv, hro, _⟩, hBl⟩ hK
    have hc := hv.cell
    gi_wp2
    refine ⟨by simp, .inl ⟨_, _, rfl, run_takeDeferred hK, ?_⟩⟩
    exact ⟨_, results_tmp rfl _ _ _, v, ss, rfl, hS, ownsRow_putObj hro _ hK rfl, hBl.trans (belowK_b (w := w) (Nat.le_refl _) W D _ _ (by omega) hK rfl rfl)⟩
  case stop =>
    rintro D c pre W _ _ h _
    exact h.elim
theorem coll13 (g : Nat) (lb : Array Value) (eg : ∀ args w, (callFunc g args).run Try.prog w = .ok (.enter g args) w) (L : List K2) (hL : L.length ≤ 1000000) (w : World)
    (hseq : SeqStopsK Fence.wide 4 Try.prog g lb (fun x : K2 => #[x.v]) KeepsWalks (fun ss => ss.Perm L) (fun _ => True) L.length w) :
    Calls Try.prog 65 #[.func (.func g) #[] lb] w fun e w' => ∃ v ss, e = .returned v ∧ ss.Perm L ∧ w'.ownsRow w.heap.size 78 2 v ss.length (K2.rows ss) ∧ Below w.heap.size w w' := by
  have hap := callsIn_wide.1 (appSeq13 g lb eg L hL w hseq)
  go_enter Try.func65, Try.ntmps65
  go_wp2_with (fail)
  refine hap.mono ?_
  rintro e w1 ⟨v, ss, rfl, h⟩
  go_wp2
  go_ret
  exact ⟨v, ss, rfl, h⟩
open Go.Shelf Go.Sort in
theorem cmpLays13 (blk off size : Nat) (w : World) : CmpLays Try.prog 48 #[] K2.cs 2 cmpK blk off size w := by
  intro m os dk _ x y
  refine (cmp13_any x y _).mono ?_
  rintro e w1 ⟨rfl, h⟩
  exact ⟨rfl, h⟩
set_option maxRecDepth 100000 in
set_option maxHeartbeats 4000000 in
theorem sorted13 (Bm b : Nat) (L : List (K2 × Vt)) (hL : L.length ≤ 1000000) (w : World) (hBm : Bm < w.heap.size) (hm : w.cell? ⟨Bm, 0, none⟩ = some (.map (some b))) (hM : MS wrM.keys w nob b L) :
    Calls Try.prog 46 #[.func (.func 67) #[] #[.pointer (some ⟨Bm, 0, none⟩)], .func (.func 48) #[] #[]] w fun e w' => ∃ v ss, e = .returned v ∧ ss.Perm (L.map (·.1)) ∧ w'.ownsRow w.heap.size 78 2 v ss.length (K2.rows (K2.sorted ss)) ∧ Below w.heap.size w w' := by
  have hco := coll13 67 #[.pointer (some ⟨Bm, 0, none⟩)] (enters_of Try.func67 (by kernel_rfl) rfl) (L.map (·.1)) (by rw [List.length_map]; exact hL) w
    (by rw [List.length_map]; exact keysIt13 4 (by omega) Bm b L w hBm hm hM)
  have Hco := hid hco
  clear hco hm hM
  go_enter Try.func46, Try.ntmps46
  go_wp2_with (fail)
  refine Hco.out.mono ?_
  rintro e w1 ⟨v, ss, rfl, hp, hro, hB⟩
  have hsl : ss.length ≤ 1000000 := by rw [hp.length_eq, List.length_map]; exact hL
  have Hp := hid hp
  clear hp Hco
  rcases hro.2 with ⟨rfl, h0⟩ | ⟨g, cap, cur, rfl, hbase, hb, h1, h2, h3, h4⟩
  · have hss : ss = [] := List.eq_nil_of_length_eq_zero h0
    subst hss
    go_wp2_with (fail)
    refine (Try.slices_SortFuncK_none _ _ _ _).mono ?_
    rintro e w2 ⟨rfl, hw2⟩
    subst hw2
    go_wp2
    go_ret
    exact ⟨_, [], rfl, Hp.out, by simpa [K2.sorted, K2.rows] using hro, hB⟩
  · have hH : Go.Sort.HoldsK K2.cs 2 w1 g 0 ss.toArray := by
      intro j hj
      rw [flat_rows] at hj ⊢
      have hj' : j < (K2.rows ss).length := by simpa using hj
      have hjs : j < ss.length * 2 := by rw [← rows_len]; exact hj'
      have hcj : cur[j]? = (K2.rows ss)[j]? := by
        have := congrArg (fun l : List Value => l[j]?) h4
        simp only [List.getElem?_take, if_pos hjs, Array.getElem?_toList] at this
        exact this
      have hb' : Blk w1 g 78 cur.toList := by unfold Blk; simpa using hb
      refine ⟨?_, by rw [Nat.zero_add]; exact hb'.frz j⟩
      rw [Nat.zero_add, hb'.cell, Array.getElem?_toList, hcj, List.getElem?_eq_getElem hj']
      simp [hj']
    have hgl : g < w1.heap.size := lt_of_block hb
    have hsort := Try.slices_SortFuncK_total 2 Try.isAgg78 Try.sizeOf78 K2.cs (fun _ => rfl) one_k2 cmpK swoK 48 #[] g 0 cap ss.toArray w1 (enters_of Try.func48 (by kernel_rfl) rfl) (cmpLays13 g 0 _ w1) hH hgl (by simp; omega) totK
    rw [show ss.toArray.size = ss.length from by simp] at hsort
    have Hsort := hid hsort
    clear hsort hH hro h4
    have hbs := hB.size
    go_wp2_with (fail)
    refine Hsort.out.mono ?_
    rintro e w3 ⟨rfl, n, os, rfl⟩
    rw [show (ss.mergeSort fun x y => !(ltOf cmpK) y x) = K2.sorted ss from rfl]
    have hsl2 : (K2.sorted ss).length = ss.length := by unfold K2.sorted; exact List.length_mergeSort _
    have hh : (sortWorldK K2.cs 2 w1 g 0 n (K2.sorted ss).toArray os).heap[g]? = some (.cells (Go.Sort.putCells id 0 (Go.Sort.flatK K2.cs 2 (K2.sorted ss).toArray) cur) 78 (0, 0)) := by
      unfold sortWorldK Go.Sort.putRowK
      rw [Go.Sort.heap_grow_old _ _ (by simpa [Go.Sort.putRow, Go.Sort.mapBlock, Go.Sort.ahead] using hgl)]
      simp [Go.Sort.putRow, Go.Sort.mapBlock, Go.Sort.ahead, Array.getElem?_modify, hb, Go.Sort.onCells]
    have hgr : w1.grownBy (sortWorldK K2.cs 2 w1 g 0 n (K2.sorted ss).toArray os) (some g) := by
      unfold sortWorldK Go.Sort.putRowK
      refine ⟨rfl, rfl, rfl, by simp [Go.Sort.grow, Go.Sort.putRow, Go.Sort.mapBlock, Go.Sort.ahead], fun k hk hne => ?_⟩
      rw [Go.Sort.heap_grow_old _ _ (by simpa [Go.Sort.putRow, Go.Sort.mapBlock, Go.Sort.ahead] using hk)]
      have : g ≠ k := fun e => hne (by rw [e])
      simp [Go.Sort.putRow, Go.Sort.mapBlock, Go.Sort.ahead, Array.getElem?_modify, this]
    obtain ⟨w3, hw3⟩ : ∃ w3, w3 = sortWorldK K2.cs 2 w1 g 0 n (K2.sorted ss).toArray os := ⟨_, rfl⟩
    rw [← hw3] at hh hgr ⊢
    have hown : w3.ownsRow w.heap.size 78 2 (.slice (some ⟨g, 0, none⟩) ss.length cap) ss.length (K2.rows (K2.sorted ss)) := by
      refine ⟨by rw [rows_len, hsl2], .inr ⟨g, cap, _, rfl, hbase, hh, h1, h2, by simp [Go.Sort.putCells, h3], ?_⟩⟩
      have := take_rows cur (K2.sorted ss) (by rw [hsl2, h3]; omega)
      rwa [hsl2] at this
    have hB3 := hB.grown hgr hbs (fun k hk => by injection hk with hk; omega)
    have Hown := hid hown
    clear hh hgr hw3 hown hb hsl2 Hsort
    go_wp2
    go_ret
    exact ⟨_, ss, rfl, Hp.out, Hown.out, hB3⟩
end Go.Proofs.Ytkoncjcnpconkaa
