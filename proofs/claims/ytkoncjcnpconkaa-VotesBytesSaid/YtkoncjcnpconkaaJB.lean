/- JB: layer 13: contracts of votes: numbers, formed, textSize, head, size, bytesOf, refusal, Put. -/
import Derived.Test.YtkoncjcnpconkaaJ3
import Derived.Test.YtkoncjcnpconkaaYG
namespace Go.V
open Go.RowKit
def nsz13 (i : Nat) : Nat := if i = 0 then 1 else 2
def nmx13 (i : Nat) : Nat := if i = 0 then 3 else if i = 2 then 40 else 60
def nE13 (g i : Nat) : List Value := [.pointer (some ⟨g, i, none⟩), .int .i64 (nsz13 i : Int), .int .i64 (nmx13 i : Int)]
def nV13 (g : Nat) : List Value := nE13 g 0 ++ nE13 g 1 ++ nE13 g 2 ++ nE13 g 3
theorem nV13_at (g i : Nat) (h : i < 4) : ((nV13 g).drop (i * 3)).take 3 = nE13 g i := by
  match i, h with
  | 0, _ => rfl
  | 1, _ => rfl
  | 2, _ => rfl
  | 3, _ => rfl
theorem one_nE13 (g i : Nat) : ∀ v ∈ nE13 g i, v.oneCell' = true := by
  intro v hv
  simp only [nE13, List.mem_cons, List.not_mem_nil, or_false] at hv
  rcases hv with rfl | rfl | rfl <;> rfl
theorem one_nV13 (g : Nat) : ∀ v ∈ nV13 g, v.oneCell' = true := by
  intro v hv
  simp only [nV13, List.mem_append] at hv
  rcases hv with ((hv | hv) | hv) | hv <;> exact one_nE13 _ _ v hv
def Vt.num (m : Vt) (i : Nat) : Int := if i = 0 then m.k else if i = 1 then m.v else if i = 2 then m.r else m.s
theorem vt_num (m : Vt) (ub up : Value) (i : Nat) (h : i < 4) : (m.l ub up)[i]? = some (.int .i64 (m.num i)) := by
  match i, h with
  | 0, _ => rfl
  | 1, _ => rfl
  | 2, _ => rfl
  | 3, _ => rfl
theorem all4 {p : Nat → Prop} : (∀ j, j < 4 → p j) ↔ p 0 ∧ p 1 ∧ p 2 ∧ p 3 := by
  constructor
  · exact fun h => ⟨h 0 (by omega), h 1 (by omega), h 2 (by omega), h 3 (by omega)⟩
  · rintro ⟨h0, h1, h2, h3⟩ j hj
    match j, hj with
    | 0, _ => exact h0
    | 1, _ => exact h1
    | 2, _ => exact h2
    | 3, _ => exact h3
theorem num_out {m : Vt} (h : ∀ j, j < 4 → 0 ≤ m.num j ∧ m.num j ≤ (nmx13 j : Int)) : (0 ≤ m.k ∧ m.k ≤ 3) ∧ (0 ≤ m.v ∧ m.v ≤ 60) ∧ (0 ≤ m.r ∧ m.r ≤ 40) ∧ (0 ≤ m.s ∧ m.s ≤ 60) := by
  rw [all4] at h
  simpa [nmx13, Vt.num] using h
theorem num_false {m : Vt} (i : Nat) (hi : i < 4) (h : ¬ (0 ≤ m.num i ∧ m.num i ≤ (nmx13 i : Int))) : partsV m = false := by
  unfold partsV
  refine decide_eq_false (fun hn => h ?_)
  have : ∀ j, j < 4 → 0 ≤ m.num j ∧ m.num j ≤ (nmx13 j : Int) := by
    rw [all4]
    simp [nmx13, Vt.num]
    omega
  exact this i hi
theorem num_in {m : Vt} (hm : VtIn m) (i : Nat) : in64w (m.num i) := by
  unfold Vt.num
  repeat' split
  · exact hm.k
  · exact hm.v
  · exact hm.r
  · exact hm.s
/-- a composite value, of a guarded operation that is wanted -/
theorem wp_bldg {P : Program} {w : World} {ops : Array Oper} {rest : List Oper} {o : Oper} {a : Act} {Q : Exit → Act → World → Prop} (t : TypeId) (parts : List (Nat × Operand)) (hw : Region.wanted o (yielded ops a.tmps) = true) (ho : o.op = .build t parts.toArray) (vs : List (Nat × Value)) (hp : (parts.map fun x => (x.1, a.eval x.2)) = vs) {cells : Array Value} (hr : ∀ W : World, (Instr.build t vs.toArray).run P W = .ok (.agg cells) W)
    (h : wpList P ops Q rest (a.put o.dst (.agg cells)) w) : wpList P ops Q (o :: rest) a w := by
  refine wpList_step fun K hK => ?_
  rw [if_pos hw]
  have e : (parts.toArray.map fun (i, x) => (i, a.eval x)) = vs.toArray := by rw [List.map_toArray, ← hp]
  unfold Oper.wp execOp
  simp only [ho, e, Sem.run_bind, Sem.run_pure, hr, Result.andThen_ok]
  exact hK _ _ h
/-- a vote that fits -/
structure VtSm (m : Vt) : Prop where
  b : m.b.length ≤ 1000000
  n : m.ps.length ≤ 1000000
  p : ∀ t ∈ m.ps, t.length ≤ 1000000
end Go.V
namespace Go.Proofs.Ytkoncjcnpconkaa
open Go.RowKit Go.V
def hp13 (m : Vt) (i : Nat) : List UInt8 := (List.range i).flatMap fun j => fixR (nsz13 j : Int) (un (m.num j))
theorem hp13_succ (m : Vt) (i : Nat) : hp13 m (i + 1) = hp13 m i ++ fixR (nsz13 i : Int) (un (m.num i)) := by
  unfold hp13
  rw [List.range_succ, List.flatMap_append, List.flatMap_singleton]
theorem okN_nsz (i : Nat) : okN (nsz13 i : Int) := by
  unfold okN nsz13
  split <;> omega
theorem hp13_hd (m : Vt) : hp13 m 4 ++ m.h = Vt.hd m := by
  unfold Vt.hd
  congr 1
theorem len_fixN (i x : Nat) : (fixR (nsz13 i : Int) x).length = nsz13 i := fix_len (nsz13 i) x (okN_nsz i)
theorem len_hp13 (m : Vt) : ∀ i, (hp13 m i).length ≤ 2 * i
  | 0 => by unfold hp13; simp
  | i + 1 => by
    rw [hp13_succ, List.length_append, len_fixN]
    have := len_hp13 m i
    have : nsz13 i ≤ 2 := by unfold nsz13; split <;> omega
    omega
theorem len_by13 (m : Vt) : (Vt.by m).length = 39 + (psz m.b.length + m.b.length) + psz m.ps.length + (m.ps.flatMap tb1).length := by
  unfold Vt.by
  simp only [List.length_append, len_vhd, length_packed]
theorem hb13 (g : Nat) (W : World) : (Instr.build 98 ([(0, .agg #[.pointer (some ⟨g, 0, none⟩), .int .i64 1, .int .i64 3]), (1, .agg #[.pointer (some ⟨g, 1, none⟩), .int .i64 2, .int .i64 60]), (2, .agg #[.pointer (some ⟨g, 2, none⟩), .int .i64 2, .int .i64 40]), (3, .agg #[.pointer (some ⟨g, 3, none⟩), .int .i64 2, .int .i64 60])] : List (Nat × Value)).toArray).run Try.prog W = .ok (.agg (nV13 g).toArray) W := by kernel_rfl
theorem sizeN4 : (Try.prog.info? 98).map (·.size) = some 12 := by kernel_rfl
theorem sizeN1 : (Try.prog.info? 97).map (·.size) = some 3 := by kernel_rfl
def zN1 : List Value := [.pointer none, .int .i64 0, .int .i64 0]
theorem zeroN1 : (Try.prog.info? 97).map (·.zero) = some (some (.agg zN1.toArray)) := by kernel_rfl
def zN4 : List Value := zN1 ++ zN1 ++ zN1 ++ zN1
theorem zeroN4 : (Try.prog.info? 98).map (·.zero) = some (some (.agg zN4.toArray)) := by kernel_rfl
theorem aggN1 (W : World) : (isAgg 97).run Try.prog W = .ok true W := by kernel_rfl
set_option maxRecDepth 100000 in
set_option maxHeartbeats 2000000 in
theorem numbers13_any (g : Nat) (w : World) :
    Calls Try.prog 58 #[.pointer (some ⟨g, 0, none⟩)] w fun e w' => e = .returned (.agg (nV13 g).toArray) ∧ Below w.heap.size w w' := by
  have hB : Below w.heap.size w (w.alloc (.cells zN4.toArray 98)) := (Below.refl _ _).alloc (Nat.le_refl _) _
  have hz := Blk.new' w 98 zN4
  go_enter Try.func58, Try.ntmps58
  go_wp2_with (refine wp_new 98 rfl rfl zeroN4 ?_; refine wp_stop ?_)
  obtain ⟨w0, hw0⟩ : ∃ w0, w0 = w.alloc (.cells zN4.toArray 98) := ⟨_, rfl⟩
  rw [← hw0] at hB hz ⊢
  clear hw0
  obtain ⟨g0, hg0⟩ : ∃ g0, g0 = w.heap.size := ⟨_, rfl⟩
  rw [← hg0] at hz ⊢
  have hgw : w.heap.size ≤ g0 := by omega
  clear hg0
  refine wp_go ?_
  go_upto_region 1 with (fail)
  refine wp_region_noPanic ?_
  refine wp_region_held_drew (S := fun _ => True) (by kernel_rfl) (trivial) (fun hHeld => ?_)
  refine wpAnyH_take (i := 0) (oi := ⟨some 3, _, _, _, _, none⟩) (v := ?_) rfl (by kernel_rfl) (by kernel_rfl) (by kernel_rfl) (fun _ _ _ h => h) (Or.inl ⟨by rfl, ?_⟩) (by assumption) ?_
  rotate_left
  · intro w hSw; go_simp; try with_reducible rfl
  try simp only [Act.put, List.setIfInBounds_toArray, List.set_cons_zero, List.set_cons_succ]
  refine wpAnyH_take (i := 1) (oi := ⟨some 4, _, _, _, _, none⟩) (v := ?_) rfl (by kernel_rfl) (by kernel_rfl) (by kernel_rfl) (fun _ _ _ h => h) (Or.inl ⟨by rfl, ?_⟩) (by assumption) ?_
  rotate_left
  · intro w hSw; go_simp; try with_reducible rfl
  try simp only [Act.put, List.setIfInBounds_toArray, List.set_cons_zero, List.set_cons_succ]
  refine wpAnyH_take (i := 2) (oi := ⟨some 5, _, _, _, _, none⟩) (v := ?_) rfl (by kernel_rfl) (by kernel_rfl) (by kernel_rfl) (fun _ _ _ h => h) (Or.inl ⟨by rfl, ?_⟩) (by assumption) ?_
  rotate_left
  · intro w hSw; go_simp; try with_reducible rfl
  try simp only [Act.put, List.setIfInBounds_toArray, List.set_cons_zero, List.set_cons_succ]
  refine wpAnyH_take (i := 3) (oi := ⟨some 6, _, _, _, _, none⟩) (v := ?_) rfl (by kernel_rfl) (by kernel_rfl) (by kernel_rfl) (fun _ _ _ h => h) (Or.inl ⟨by rfl, ?_⟩) (by assumption) ?_
  rotate_left
  · intro w hSw; go_simp; try with_reducible rfl
  try simp only [Act.put, List.setIfInBounds_toArray, List.set_cons_zero, List.set_cons_succ]
  refine wpAnyH_take (i := 4) (oi := ⟨some 7, _, _, _, _, none⟩) (v := ?_) rfl (by kernel_rfl) (by kernel_rfl) (by kernel_rfl) (fun _ _ _ h => h) (Or.inl ⟨by rfl, ?_⟩) (by assumption) ?_
  rotate_left
  · intro w hSw; go_simp; try with_reducible rfl
  try simp only [Act.put, List.setIfInBounds_toArray, List.set_cons_zero, List.set_cons_succ]
  refine wpAnyH_take (i := 5) (oi := ⟨some 8, _, _, _, _, none⟩) (v := ?_) rfl (by kernel_rfl) (by kernel_rfl) (by kernel_rfl) (fun _ _ _ h => h) (Or.inl ⟨by rfl, ?_⟩) (by assumption) ?_
  rotate_left
  · intro w hSw; go_simp; try with_reducible rfl
  try simp only [Act.put, List.setIfInBounds_toArray, List.set_cons_zero, List.set_cons_succ]
  refine wpAnyH_take (i := 6) (oi := ⟨some 9, _, _, _, _, none⟩) (v := ?_) rfl (by kernel_rfl) (by kernel_rfl) (by kernel_rfl) (fun _ _ _ h => h) (Or.inl ⟨by rfl, ?_⟩) (by assumption) ?_
  rotate_left
  · intro w hSw; go_simp; try with_reducible rfl
  try simp only [Act.put, List.setIfInBounds_toArray, List.set_cons_zero, List.set_cons_succ]
  refine wpAnyH_take (i := 7) (oi := ⟨some 10, _, _, _, _, none⟩) (v := ?_) rfl (by kernel_rfl) (by kernel_rfl) (by kernel_rfl) (fun _ _ _ h => h) (Or.inl ⟨by rfl, ?_⟩) (by assumption) ?_
  rotate_left
  · intro w hSw; go_simp; try with_reducible rfl
  try simp only [Act.put, List.setIfInBounds_toArray, List.set_cons_zero, List.set_cons_succ]
  refine wpAnyH_take (i := 8) (oi := ⟨some 11, _, _, _, _, none⟩) (v := ?_) rfl (by kernel_rfl) (by kernel_rfl) (by kernel_rfl) (fun _ _ _ h => h) (Or.inl ⟨by rfl, ?_⟩) (by assumption) ?_
  rotate_left
  · intro w hSw; go_simp; try with_reducible rfl
  try simp only [Act.put, List.setIfInBounds_toArray, List.set_cons_zero, List.set_cons_succ]
  refine wpAnyH_take (i := 9) (oi := ⟨some 12, _, _, _, _, none⟩) (v := ?_) rfl (by kernel_rfl) (by kernel_rfl) (by kernel_rfl) (fun _ _ _ h => h) (Or.inl ⟨by rfl, ?_⟩) (by assumption) ?_
  rotate_left
  · intro w hSw; go_simp; try with_reducible rfl
  try simp only [Act.put, List.setIfInBounds_toArray, List.set_cons_zero, List.set_cons_succ]
  refine wpAnyH_take (i := 10) (oi := ⟨some 13, _, _, _, _, none⟩) (v := ?_) rfl (by kernel_rfl) (by kernel_rfl) (by kernel_rfl) (fun _ _ _ h => h) (Or.inl ⟨by rfl, ?_⟩) (by assumption) ?_
  rotate_left
  · intro w hSw; go_simp; try with_reducible rfl
  try simp only [Act.put, List.setIfInBounds_toArray, List.set_cons_zero, List.set_cons_succ]
  refine wpAnyH_take (i := 11) (oi := ⟨some 14, _, _, _, _, none⟩) (v := ?_) rfl (by kernel_rfl) (by kernel_rfl) (by kernel_rfl) (fun _ _ _ h => h) (Or.inl ⟨by rfl, ?_⟩) (by assumption) ?_
  rotate_left
  · intro w hSw; go_simp; try with_reducible rfl
  try simp only [Act.put, List.setIfInBounds_toArray, List.set_cons_zero, List.set_cons_succ]
  refine wpAnyH_take (i := 12) (oi := ⟨some 15, _, _, _, _, none⟩) (v := ?_) rfl (by kernel_rfl) (by kernel_rfl) (by kernel_rfl) (fun _ _ _ h => h) (Or.inl ⟨by rfl, ?_⟩) (by assumption) ?_
  rotate_left
  · intro w hSw; go_simp; try with_reducible rfl
  try simp only [Act.put, List.setIfInBounds_toArray, List.set_cons_zero, List.set_cons_succ]
  refine wpAnyH_take (i := 13) (oi := ⟨some 16, _, _, _, _, none⟩) (v := ?_) rfl (by kernel_rfl) (by kernel_rfl) (by kernel_rfl) (fun _ _ _ h => h) (Or.inl ⟨by rfl, ?_⟩) (by assumption) ?_
  rotate_left
  · intro w hSw; go_simp; try with_reducible rfl
  try simp only [Act.put, List.setIfInBounds_toArray, List.set_cons_zero, List.set_cons_succ]
  refine wpAnyH_take (i := 14) (oi := ⟨some 17, _, _, _, _, none⟩) (v := ?_) rfl (by kernel_rfl) (by kernel_rfl) (by kernel_rfl) (fun _ _ _ h => h) (Or.inl ⟨by rfl, ?_⟩) (by assumption) ?_
  rotate_left
  · intro w hSw; go_simp; try with_reducible rfl
  try simp only [Act.put, List.setIfInBounds_toArray, List.set_cons_zero, List.set_cons_succ]
  refine wpAnyH_take (i := 15) (oi := ⟨some 18, _, _, _, _, none⟩) (v := ?_) rfl (by kernel_rfl) (by kernel_rfl) (by kernel_rfl) (fun _ _ _ h => h) (Or.inl ⟨by rfl, ?_⟩) (by assumption) ?_
  rotate_left
  · intro w hSw; go_simp; try with_reducible rfl
  try simp only [Act.put, List.setIfInBounds_toArray, List.set_cons_zero, List.set_cons_succ]
  refine wpAnyH_take (i := 16) (oi := ⟨some 19, .build 98 #[(0, .tmp 6), (1, .tmp 10), (2, .tmp 14), (3, .tmp 18)], _, _, _, none⟩) (v := _) rfl (by kernel_rfl) (by kernel_rfl) (by kernel_rfl) (fun _ _ _ h => h) (y_bld (by rfl) 98 [(0, .tmp 6), (1, .tmp 10), (2, .tmp 14), (3, .tmp 18)] (by rfl) [(0, .agg #[.pointer (some ⟨g, 0, none⟩), .int .i64 1, .int .i64 3]), (1, .agg #[.pointer (some ⟨g, 1, none⟩), .int .i64 2, .int .i64 60]), (2, .agg #[.pointer (some ⟨g, 2, none⟩), .int .i64 2, .int .i64 40]), (3, .agg #[.pointer (some ⟨g, 3, none⟩), .int .i64 2, .int .i64 60])] (by rfl) (hb13 g)) (by assumption) ?_
  try simp only [Act.put, List.setIfInBounds_toArray, List.set_cons_zero, List.set_cons_succ]
  refine wpAnyH_ready (rs := [17]) (by kernel_rfl) (by simp) ?_
  refine AllReadyH.cons (o := ⟨none, .store 98 (.tmp 2) (.tmp 19), _, _, _, none⟩) rfl (fun K hK => ?_) AllReadyH.nil
  refine step_st 98 (.tmp 2) (.tmp 19) (by rfl) (by rfl) (by rfl) (f := 0) (by rfl) (l := nV13 g) (by rfl) hz.drew (by simp [nV13, nE13, zN4, zN1]) sizeN4 (one_nV13 g) ?_
  intro w10 hz10 hG10
  refine hK.out _ _ (trivial) (fun hHeld => ?_)
  clear hK K
  try simp only [Act.put, List.setIfInBounds_toArray, List.set_cons_zero, List.set_cons_succ]
  refine wpAnyH_done (by kernel_rfl) ?_ _
  refine NoPanic.normal ?_
  rw [show zN4.take 0 ++ nV13 g ++ zN4.drop (0 + (nV13 g).length) = nV13 g from rfl] at hz10
  go_wp2
  refine ret_cell rfl rfl hz10.whole Try.underlying98 rfl sizeN4 rfl ?_
  exact ⟨rfl, hB.drew.grown hG10 hB.size (by intro k hk; injection hk with hk; omega)⟩
set_option maxRecDepth 100000 in
set_option maxHeartbeats 4000000 in
theorem formed13_any (m : Vt) (ub up : Value) (F1 F2 : Nat → Prop) (w : World) (hm : VtIn m) (hub : Rd w F1 ub (bys m.b)) (hup : Rd w F2 up (tx m.ps)) :
    Calls Try.prog 35 #[m.val ub up] w fun e w' => e = .returned (.bool (partsV m)) ∧ Below w.heap.size w w' := by
  obtain ⟨AB, cb, rfl⟩ := hub.shape
  obtain ⟨AP, cpp, rfl, _, _⟩ := hup.slShape
  have hh := m.hh
  obtain ⟨q, hq⟩ : ∃ q, q = partsV m := ⟨_, rfl⟩
  rw [← hq]
  have Hq0 := hid hq
  clear hq
  have hnum := fun i h => vt_num m (.slice AB m.b.length cb) (.slice AP m.ps.length cpp) i h
  have hfx := fun i => num_in hm i
  have h36 := vt_body hh (.slice AB m.b.length cb) (.slice AP m.ps.length cpp)
  have h37 := vt_parts hh (.slice AB m.b.length cb) (.slice AP m.ps.length cpp)
  have hha := vt_hash hh (.slice AB m.b.length cb) (.slice AP m.ps.length cpp)
  unfold Vt.val
  obtain ⟨l, hl⟩ : ∃ l, l = m.l (.slice AB m.b.length cb) (.slice AP m.ps.length cpp) := ⟨_, rfl⟩
  have l0 : l[0]? = some (.int .i64 m.k) := by rw [hl]; rfl
  have l3 : l[3]? = some (.int .i64 m.s) := by rw [hl]; rfl
  rw [← hl] at hnum h36 h37 hha ⊢
  clear hl hm hub hup
  have hvb := Blk.new' w 27 l
  have hB : Below w.heap.size w (w.alloc (.cells l.toArray 27)) := (Below.refl _ _).alloc (Nat.le_refl _) _
  have Hnum := hid hnum
  have Hfx := hid hfx
  have Hha := hid hha
  clear hnum hfx hha
  go_enter Try.func35, Try.ntmps35
  go_wp2_with (fail)
  obtain ⟨w0, hw0⟩ : ∃ w0, w0 = w.alloc (.cells l.toArray 27) := ⟨_, rfl⟩
  rw [← hw0] at hvb hB ⊢
  clear hw0
  obtain ⟨g, hg⟩ : ∃ g, g = w.heap.size := ⟨_, rfl⟩
  rw [← hg] at hvb ⊢
  clear hg
  refine (numbers13_any g w0).mono ?_
  rintro e w1 ⟨rfl, hB1⟩
  go_wp2
  go_loopw [6] (fun iv wr => ∃ i : Nat, i ≤ 4 ∧ iv = .int .i64 i ∧ Hid (∀ j, j < i → 0 ≤ m.num j ∧ m.num j ≤ (nmx13 j : Int)) ∧ Below w0.heap.size w0 wr) (fun i _ => 4 - (intOf i).toNat)
  case atStart => exact ⟨0, Nat.zero_le _, rfl, fun j hj => absurd hj (Nat.not_lt_zero _), hB1⟩
  case round =>
    clear hB1
    obtain ⟨i, hi, rfl, hall, hBr⟩ := hrel
    by_cases hlt : i < 4
    · have hI : (i : Int) < 4 := by omega
      obtain ⟨x, hx⟩ : ∃ x, x = m.num i := ⟨_, rfl⟩
      obtain ⟨hi2, hhi⟩ : ∃ hi2, hi2 = nmx13 i := ⟨_, rfl⟩
      have hl := Hnum.out i hlt
      rw [← hx] at hl
      have e0 : (nE13 g i)[0]? = some (.pointer (some ⟨g, i, none⟩)) := rfl
      have e2 : (nE13 g i)[2]? = some (.int .i64 (hi2 : Int)) := by rw [hhi]; rfl
      have Hx := hid hx
      have Hhi := hid hhi
      clear hx hhi
      go_wp2_with (first | refine wp_idxW 98 (.tmp 5) (.tmp 6) rfl rfl (l := nV13 g) rfl rfl Try.underlying98 hlt aggN1 sizeN1 ?_; rw [nV13_at g i hlt] | refine wp_newst 97 4 (.tmp 8) rfl rfl rfl rfl rfl rfl zeroN1 (l := nE13 g i) rfl rfl sizeN1 (one_nE13 g i) (by simp [Act.put]) ?_; intro w2 hf2 hB2 hs2; refine wp_stop ?_)
      have hB2 := hBr.trans (hB2.mono hBr.size)
      have hv2 := hvb.below hB2
      obtain ⟨gf, hgf⟩ : ∃ gf, gf = wr.heap.size := ⟨_, rfl⟩
      rw [← hgf] at hf2 ⊢
      clear hgf hs2
      have HP : Hid (∀ W, Ch nob w2 W → W.cell? ⟨gf, 0, none⟩ = some (.pointer (some ⟨g, i, none⟩))) := fun W h => (hf2.ch h (fun h => h)).cellAt 0 _ e0
      have HH : Hid (∀ W, Ch nob w2 W → W.cell? ⟨gf, 2, none⟩ = some (.int .i64 (hi2 : Int))) := fun W h => (hf2.ch h (fun h => h)).cellAt 2 _ e2
      have HX : Hid (∀ W, Ch nob w2 W → W.cell? ⟨g, i, none⟩ = some (.int .i64 x)) := fun W h => (hv2.ch h (fun h => h)).cellAt i _ hl
      clear e0 e2 hl hf2 hv2
      refine wp_go ?_
      go_upto_region 4 with (fail)
      by_cases h1 : x < 0
      · have hres : Hid (q = false) := Hq0.out.trans (num_false i hlt (by rw [← Hx.out]; omega))
        refine wp_region_noPanic ?_
        refine wp_region_held_drew (S := Ch nob w2) (by kernel_rfl) ((Ch.refl _ _).drew) (fun hHeld => ?_)
        refine wpAnyH_take (i := 0) (oi := ⟨some 9, _, _, _, _, none⟩) (v := ?_) rfl (by kernel_rfl) (by kernel_rfl) (by kernel_rfl) (fun _ _ _ h => h) (Or.inl ⟨by rfl, ?_⟩) (by assumption) ?_
        rotate_left
        · intro w hSw; go_simp; try with_reducible rfl
        try simp only [Act.put, List.setIfInBounds_toArray, List.set_cons_zero, List.set_cons_succ]
        refine wpAnyH_take (i := 1) (oi := ⟨some 10, _, _, _, _, none⟩) (v := ?_) rfl (by kernel_rfl) (by kernel_rfl) (by kernel_rfl) (fun _ _ _ h => h) (Or.inl ⟨by rfl, ?_⟩) (by assumption) ?_
        rotate_left
        · intro w hSw; have hcw := HP.out w hSw; go_simp; try with_reducible rfl
        try simp only [Act.put, List.setIfInBounds_toArray, List.set_cons_zero, List.set_cons_succ]
        refine wpAnyH_take (i := 2) (oi := ⟨some 11, _, _, _, _, none⟩) (v := ?_) rfl (by kernel_rfl) (by kernel_rfl) (by kernel_rfl) (fun _ _ _ h => h) (Or.inl ⟨by rfl, ?_⟩) (by assumption) ?_
        rotate_left
        · intro w hSw; go_simp; try with_reducible rfl
        try simp only [Act.put, List.setIfInBounds_toArray, List.set_cons_zero, List.set_cons_succ]
        refine wpAnyH_take (i := 3) (oi := ⟨some 12, _, _, _, _, none⟩) (v := ?_) rfl (by kernel_rfl) (by kernel_rfl) (by kernel_rfl) (fun _ _ _ h => h) (Or.inl ⟨by rfl, ?_⟩) (by assumption) ?_
        rotate_left
        · intro w hSw; have hcw := HX.out w hSw; go_simp; try with_reducible rfl
        try simp only [Act.put, List.setIfInBounds_toArray, List.set_cons_zero, List.set_cons_succ]
        refine wpAnyH_take (i := 4) (oi := ⟨some 13, _, _, _, _, none⟩) (v := ?_) rfl (by kernel_rfl) (by kernel_rfl) (by kernel_rfl) (fun _ _ _ h => h) (Or.inl ⟨by rfl, ?_⟩) (by assumption) ?_
        rotate_left
        · intro w hSw; go_simp; try with_reducible rfl
        try simp only [Act.put, List.setIfInBounds_toArray, List.set_cons_zero, List.set_cons_succ]
        refine wpAnyH_take (i := 5) (oi := ⟨some 14, _, _, _, _, none⟩) (v := ?_) rfl (by kernel_rfl) (by kernel_rfl) (by kernel_rfl) (fun _ _ _ h => h) (Or.inl ⟨by rfl, ?_⟩) (by assumption) ?_
        rotate_left
        · intro w hSw; go_simp; try with_reducible rfl
        try simp only [Act.put, List.setIfInBounds_toArray, List.set_cons_zero, List.set_cons_succ]
        refine wpAnyH_take (i := 6) (oi := ⟨some 15, _, _, _, _, some (5, false)⟩) (v := undef) rfl (by kernel_rfl) (by kernel_rfl) (by kernel_rfl) (fun _ _ _ h => h) (Or.inr ⟨by rfl, rfl⟩) (by assumption) ?_
        try simp only [Act.put, List.setIfInBounds_toArray, List.set_cons_zero, List.set_cons_succ]
        refine wpAnyH_take (i := 7) (oi := ⟨some 16, _, _, _, _, some (5, false)⟩) (v := undef) rfl (by kernel_rfl) (by kernel_rfl) (by kernel_rfl) (fun _ _ _ h => h) (Or.inr ⟨by rfl, rfl⟩) (by assumption) ?_
        try simp only [Act.put, List.setIfInBounds_toArray, List.set_cons_zero, List.set_cons_succ]
        refine wpAnyH_take (i := 8) (oi := ⟨some 17, _, _, _, _, some (5, false)⟩) (v := undef) rfl (by kernel_rfl) (by kernel_rfl) (by kernel_rfl) (fun _ _ _ h => h) (Or.inr ⟨by rfl, rfl⟩) (by assumption) ?_
        try simp only [Act.put, List.setIfInBounds_toArray, List.set_cons_zero, List.set_cons_succ]
        refine wpAnyH_take (i := 9) (oi := ⟨some 18, _, _, _, _, some (5, false)⟩) (v := undef) rfl (by kernel_rfl) (by kernel_rfl) (by kernel_rfl) (fun _ _ _ h => h) (Or.inr ⟨by rfl, rfl⟩) (by assumption) ?_
        try simp only [Act.put, List.setIfInBounds_toArray, List.set_cons_zero, List.set_cons_succ]
        refine wpAnyH_take (i := 10) (oi := ⟨some 19, _, _, _, _, some (5, false)⟩) (v := undef) rfl (by kernel_rfl) (by kernel_rfl) (by kernel_rfl) (fun _ _ _ h => h) (Or.inr ⟨by rfl, rfl⟩) (by assumption) ?_
        try simp only [Act.put, List.setIfInBounds_toArray, List.set_cons_zero, List.set_cons_succ]
        refine wpAnyH_take (i := 11) (oi := ⟨some 20, _, _, _, _, some (5, false)⟩) (v := undef) rfl (by kernel_rfl) (by kernel_rfl) (by kernel_rfl) (fun _ _ _ h => h) (Or.inr ⟨by rfl, rfl⟩) (by assumption) ?_
        try simp only [Act.put, List.setIfInBounds_toArray, List.set_cons_zero, List.set_cons_succ]
        refine wpAnyH_take (i := 12) (oi := ⟨some 21, _, _, _, _, some (5, false)⟩) (v := undef) rfl (by kernel_rfl) (by kernel_rfl) (by kernel_rfl) (fun _ _ _ h => h) (Or.inr ⟨by rfl, rfl⟩) (by assumption) ?_
        try simp only [Act.put, List.setIfInBounds_toArray, List.set_cons_zero, List.set_cons_succ]
        refine wpAnyH_take (i := 13) (oi := ⟨some 22, _, _, _, _, none⟩) (v := ?_) rfl (by kernel_rfl) (by kernel_rfl) (by kernel_rfl) (fun _ _ _ h => h) (Or.inl ⟨by rfl, ?_⟩) (by assumption) ?_
        rotate_left
        · intro w hSw; go_simp; try with_reducible rfl
        try simp only [Act.put, List.setIfInBounds_toArray, List.set_cons_zero, List.set_cons_succ]
        refine wpAnyH_done (by kernel_rfl) ?_ _
        refine NoPanic.normal ?_
        go_wp2
        go_ret
        exact ⟨by rw [hres.out]; rfl, hB.trans (((hB2.trans (hHeld.below.mono hB2.size))).mono hB.size)⟩
      · by_cases h2 : (hi2 : Int) < x
        · have hres : Hid (q = false) := Hq0.out.trans (num_false i hlt (by rw [← Hx.out, ← Hhi.out]; omega))
          refine wp_region_noPanic ?_
          refine wp_region_held_drew (S := Ch nob w2) (by kernel_rfl) ((Ch.refl _ _).drew) (fun hHeld => ?_)
          refine wpAnyH_take (i := 0) (oi := ⟨some 9, _, _, _, _, none⟩) (v := ?_) rfl (by kernel_rfl) (by kernel_rfl) (by kernel_rfl) (fun _ _ _ h => h) (Or.inl ⟨by rfl, ?_⟩) (by assumption) ?_
          rotate_left
          · intro w hSw; go_simp; try with_reducible rfl
          try simp only [Act.put, List.setIfInBounds_toArray, List.set_cons_zero, List.set_cons_succ]
          refine wpAnyH_take (i := 1) (oi := ⟨some 10, _, _, _, _, none⟩) (v := ?_) rfl (by kernel_rfl) (by kernel_rfl) (by kernel_rfl) (fun _ _ _ h => h) (Or.inl ⟨by rfl, ?_⟩) (by assumption) ?_
          rotate_left
          · intro w hSw; have hcw := HP.out w hSw; go_simp; try with_reducible rfl
          try simp only [Act.put, List.setIfInBounds_toArray, List.set_cons_zero, List.set_cons_succ]
          refine wpAnyH_take (i := 2) (oi := ⟨some 11, _, _, _, _, none⟩) (v := ?_) rfl (by kernel_rfl) (by kernel_rfl) (by kernel_rfl) (fun _ _ _ h => h) (Or.inl ⟨by rfl, ?_⟩) (by assumption) ?_
          rotate_left
          · intro w hSw; go_simp; try with_reducible rfl
          try simp only [Act.put, List.setIfInBounds_toArray, List.set_cons_zero, List.set_cons_succ]
          refine wpAnyH_take (i := 3) (oi := ⟨some 12, _, _, _, _, none⟩) (v := ?_) rfl (by kernel_rfl) (by kernel_rfl) (by kernel_rfl) (fun _ _ _ h => h) (Or.inl ⟨by rfl, ?_⟩) (by assumption) ?_
          rotate_left
          · intro w hSw; have hcw := HX.out w hSw; go_simp; try with_reducible rfl
          try simp only [Act.put, List.setIfInBounds_toArray, List.set_cons_zero, List.set_cons_succ]
          refine wpAnyH_take (i := 4) (oi := ⟨some 13, _, _, _, _, none⟩) (v := ?_) rfl (by kernel_rfl) (by kernel_rfl) (by kernel_rfl) (fun _ _ _ h => h) (Or.inl ⟨by rfl, ?_⟩) (by assumption) ?_
          rotate_left
          · intro w hSw; go_simp; try with_reducible rfl
          try simp only [Act.put, List.setIfInBounds_toArray, List.set_cons_zero, List.set_cons_succ]
          refine wpAnyH_take (i := 5) (oi := ⟨some 14, _, _, _, _, none⟩) (v := ?_) rfl (by kernel_rfl) (by kernel_rfl) (by kernel_rfl) (fun _ _ _ h => h) (Or.inl ⟨by rfl, ?_⟩) (by assumption) ?_
          rotate_left
          · intro w hSw; go_simp; try with_reducible rfl
          try simp only [Act.put, List.setIfInBounds_toArray, List.set_cons_zero, List.set_cons_succ]
          refine wpAnyH_take (i := 6) (oi := ⟨some 15, _, _, _, _, some (5, false)⟩) (v := ?_) rfl (by kernel_rfl) (by kernel_rfl) (by kernel_rfl) (fun _ _ _ h => h) (Or.inl ⟨by rfl, ?_⟩) (by assumption) ?_
          rotate_left
          · intro w hSw; go_simp; try with_reducible rfl
          try simp only [Act.put, List.setIfInBounds_toArray, List.set_cons_zero, List.set_cons_succ]
          refine wpAnyH_take (i := 7) (oi := ⟨some 16, _, _, _, _, some (5, false)⟩) (v := ?_) rfl (by kernel_rfl) (by kernel_rfl) (by kernel_rfl) (fun _ _ _ h => h) (Or.inl ⟨by rfl, ?_⟩) (by assumption) ?_
          rotate_left
          · intro w hSw; have hcw := HP.out w hSw; go_simp; try with_reducible rfl
          try simp only [Act.put, List.setIfInBounds_toArray, List.set_cons_zero, List.set_cons_succ]
          refine wpAnyH_take (i := 8) (oi := ⟨some 17, _, _, _, _, some (5, false)⟩) (v := ?_) rfl (by kernel_rfl) (by kernel_rfl) (by kernel_rfl) (fun _ _ _ h => h) (Or.inl ⟨by rfl, ?_⟩) (by assumption) ?_
          rotate_left
          · intro w hSw; go_simp; try with_reducible rfl
          try simp only [Act.put, List.setIfInBounds_toArray, List.set_cons_zero, List.set_cons_succ]
          refine wpAnyH_take (i := 9) (oi := ⟨some 18, _, _, _, _, some (5, false)⟩) (v := ?_) rfl (by kernel_rfl) (by kernel_rfl) (by kernel_rfl) (fun _ _ _ h => h) (Or.inl ⟨by rfl, ?_⟩) (by assumption) ?_
          rotate_left
          · intro w hSw; have hcw := HX.out w hSw; go_simp; try with_reducible rfl
          try simp only [Act.put, List.setIfInBounds_toArray, List.set_cons_zero, List.set_cons_succ]
          refine wpAnyH_take (i := 10) (oi := ⟨some 19, _, _, _, _, some (5, false)⟩) (v := ?_) rfl (by kernel_rfl) (by kernel_rfl) (by kernel_rfl) (fun _ _ _ h => h) (Or.inl ⟨by rfl, ?_⟩) (by assumption) ?_
          rotate_left
          · intro w hSw; go_simp; try with_reducible rfl
          try simp only [Act.put, List.setIfInBounds_toArray, List.set_cons_zero, List.set_cons_succ]
          refine wpAnyH_take (i := 11) (oi := ⟨some 20, _, _, _, _, some (5, false)⟩) (v := ?_) rfl (by kernel_rfl) (by kernel_rfl) (by kernel_rfl) (fun _ _ _ h => h) (Or.inl ⟨by rfl, ?_⟩) (by assumption) ?_
          rotate_left
          · intro w hSw; have hcw := HH.out w hSw; go_simp; try with_reducible rfl
          try simp only [Act.put, List.setIfInBounds_toArray, List.set_cons_zero, List.set_cons_succ]
          refine wpAnyH_take (i := 12) (oi := ⟨some 21, _, _, _, _, some (5, false)⟩) (v := ?_) rfl (by kernel_rfl) (by kernel_rfl) (by kernel_rfl) (fun _ _ _ h => h) (Or.inl ⟨by rfl, ?_⟩) (by assumption) ?_
          rotate_left
          · intro w hSw; go_simp; try with_reducible rfl
          try simp only [Act.put, List.setIfInBounds_toArray, List.set_cons_zero, List.set_cons_succ]
          refine wpAnyH_take (i := 13) (oi := ⟨some 22, _, _, _, _, none⟩) (v := ?_) rfl (by kernel_rfl) (by kernel_rfl) (by kernel_rfl) (fun _ _ _ h => h) (Or.inl ⟨by rfl, ?_⟩) (by assumption) ?_
          rotate_left
          · intro w hSw; go_simp; try with_reducible rfl
          try simp only [Act.put, List.setIfInBounds_toArray, List.set_cons_zero, List.set_cons_succ]
          refine wpAnyH_done (by kernel_rfl) ?_ _
          refine NoPanic.normal ?_
          go_wp2
          go_ret
          exact ⟨by rw [hres.out]; rfl, hB.trans (((hB2.trans (hHeld.below.mono hB2.size))).mono hB.size)⟩
        · skip
          refine wp_region_noPanic ?_
          refine wp_region_held_drew (S := Ch nob w2) (by kernel_rfl) ((Ch.refl _ _).drew) (fun hHeld => ?_)
          refine wpAnyH_take (i := 0) (oi := ⟨some 9, _, _, _, _, none⟩) (v := ?_) rfl (by kernel_rfl) (by kernel_rfl) (by kernel_rfl) (fun _ _ _ h => h) (Or.inl ⟨by rfl, ?_⟩) (by assumption) ?_
          rotate_left
          · intro w hSw; go_simp; try with_reducible rfl
          try simp only [Act.put, List.setIfInBounds_toArray, List.set_cons_zero, List.set_cons_succ]
          refine wpAnyH_take (i := 1) (oi := ⟨some 10, _, _, _, _, none⟩) (v := ?_) rfl (by kernel_rfl) (by kernel_rfl) (by kernel_rfl) (fun _ _ _ h => h) (Or.inl ⟨by rfl, ?_⟩) (by assumption) ?_
          rotate_left
          · intro w hSw; have hcw := HP.out w hSw; go_simp; try with_reducible rfl
          try simp only [Act.put, List.setIfInBounds_toArray, List.set_cons_zero, List.set_cons_succ]
          refine wpAnyH_take (i := 2) (oi := ⟨some 11, _, _, _, _, none⟩) (v := ?_) rfl (by kernel_rfl) (by kernel_rfl) (by kernel_rfl) (fun _ _ _ h => h) (Or.inl ⟨by rfl, ?_⟩) (by assumption) ?_
          rotate_left
          · intro w hSw; go_simp; try with_reducible rfl
          try simp only [Act.put, List.setIfInBounds_toArray, List.set_cons_zero, List.set_cons_succ]
          refine wpAnyH_take (i := 3) (oi := ⟨some 12, _, _, _, _, none⟩) (v := ?_) rfl (by kernel_rfl) (by kernel_rfl) (by kernel_rfl) (fun _ _ _ h => h) (Or.inl ⟨by rfl, ?_⟩) (by assumption) ?_
          rotate_left
          · intro w hSw; have hcw := HX.out w hSw; go_simp; try with_reducible rfl
          try simp only [Act.put, List.setIfInBounds_toArray, List.set_cons_zero, List.set_cons_succ]
          refine wpAnyH_take (i := 4) (oi := ⟨some 13, _, _, _, _, none⟩) (v := ?_) rfl (by kernel_rfl) (by kernel_rfl) (by kernel_rfl) (fun _ _ _ h => h) (Or.inl ⟨by rfl, ?_⟩) (by assumption) ?_
          rotate_left
          · intro w hSw; go_simp; try with_reducible rfl
          try simp only [Act.put, List.setIfInBounds_toArray, List.set_cons_zero, List.set_cons_succ]
          refine wpAnyH_take (i := 5) (oi := ⟨some 14, _, _, _, _, none⟩) (v := ?_) rfl (by kernel_rfl) (by kernel_rfl) (by kernel_rfl) (fun _ _ _ h => h) (Or.inl ⟨by rfl, ?_⟩) (by assumption) ?_
          rotate_left
          · intro w hSw; go_simp; try with_reducible rfl
          try simp only [Act.put, List.setIfInBounds_toArray, List.set_cons_zero, List.set_cons_succ]
          refine wpAnyH_take (i := 6) (oi := ⟨some 15, _, _, _, _, some (5, false)⟩) (v := ?_) rfl (by kernel_rfl) (by kernel_rfl) (by kernel_rfl) (fun _ _ _ h => h) (Or.inl ⟨by rfl, ?_⟩) (by assumption) ?_
          rotate_left
          · intro w hSw; go_simp; try with_reducible rfl
          try simp only [Act.put, List.setIfInBounds_toArray, List.set_cons_zero, List.set_cons_succ]
          refine wpAnyH_take (i := 7) (oi := ⟨some 16, _, _, _, _, some (5, false)⟩) (v := ?_) rfl (by kernel_rfl) (by kernel_rfl) (by kernel_rfl) (fun _ _ _ h => h) (Or.inl ⟨by rfl, ?_⟩) (by assumption) ?_
          rotate_left
          · intro w hSw; have hcw := HP.out w hSw; go_simp; try with_reducible rfl
          try simp only [Act.put, List.setIfInBounds_toArray, List.set_cons_zero, List.set_cons_succ]
          refine wpAnyH_take (i := 8) (oi := ⟨some 17, _, _, _, _, some (5, false)⟩) (v := ?_) rfl (by kernel_rfl) (by kernel_rfl) (by kernel_rfl) (fun _ _ _ h => h) (Or.inl ⟨by rfl, ?_⟩) (by assumption) ?_
          rotate_left
          · intro w hSw; go_simp; try with_reducible rfl
          try simp only [Act.put, List.setIfInBounds_toArray, List.set_cons_zero, List.set_cons_succ]
          refine wpAnyH_take (i := 9) (oi := ⟨some 18, _, _, _, _, some (5, false)⟩) (v := ?_) rfl (by kernel_rfl) (by kernel_rfl) (by kernel_rfl) (fun _ _ _ h => h) (Or.inl ⟨by rfl, ?_⟩) (by assumption) ?_
          rotate_left
          · intro w hSw; have hcw := HX.out w hSw; go_simp; try with_reducible rfl
          try simp only [Act.put, List.setIfInBounds_toArray, List.set_cons_zero, List.set_cons_succ]
          refine wpAnyH_take (i := 10) (oi := ⟨some 19, _, _, _, _, some (5, false)⟩) (v := ?_) rfl (by kernel_rfl) (by kernel_rfl) (by kernel_rfl) (fun _ _ _ h => h) (Or.inl ⟨by rfl, ?_⟩) (by assumption) ?_
          rotate_left
          · intro w hSw; go_simp; try with_reducible rfl
          try simp only [Act.put, List.setIfInBounds_toArray, List.set_cons_zero, List.set_cons_succ]
          refine wpAnyH_take (i := 11) (oi := ⟨some 20, _, _, _, _, some (5, false)⟩) (v := ?_) rfl (by kernel_rfl) (by kernel_rfl) (by kernel_rfl) (fun _ _ _ h => h) (Or.inl ⟨by rfl, ?_⟩) (by assumption) ?_
          rotate_left
          · intro w hSw; have hcw := HH.out w hSw; go_simp; try with_reducible rfl
          try simp only [Act.put, List.setIfInBounds_toArray, List.set_cons_zero, List.set_cons_succ]
          refine wpAnyH_take (i := 12) (oi := ⟨some 21, _, _, _, _, some (5, false)⟩) (v := ?_) rfl (by kernel_rfl) (by kernel_rfl) (by kernel_rfl) (fun _ _ _ h => h) (Or.inl ⟨by rfl, ?_⟩) (by assumption) ?_
          rotate_left
          · intro w hSw; go_simp; try with_reducible rfl
          try simp only [Act.put, List.setIfInBounds_toArray, List.set_cons_zero, List.set_cons_succ]
          refine wpAnyH_take (i := 13) (oi := ⟨some 22, _, _, _, _, none⟩) (v := ?_) rfl (by kernel_rfl) (by kernel_rfl) (by kernel_rfl) (fun _ _ _ h => h) (Or.inl ⟨by rfl, ?_⟩) (by assumption) ?_
          rotate_left
          · intro w hSw; go_simp; try with_reducible rfl
          try simp only [Act.put, List.setIfInBounds_toArray, List.set_cons_zero, List.set_cons_succ]
          refine wpAnyH_done (by kernel_rfl) ?_ _
          refine NoPanic.normal ?_
          go_wp2
          go_roundw
          case rel => exact ⟨i + 1, by omega, by go_num, fun j hj => by
            rcases Nat.lt_or_ge j i with h | h
            · exact hall.out j h
            · have : j = i := by omega
              subst this
              rw [← Hx.out, ← Hhi.out]
              omega, hB2.trans (hHeld.below.mono hB2.size)⟩
          case measure => simp [intOf]; omega
    · have hi' : i = 4 := by omega
      subst hi'
      have hI : ¬ (4 : Int) < 4 := by omega
      have hv := hvb.below hBr
      have hBr := hB.trans (hBr.mono hB.size)
      obtain ⟨⟨n1, n2⟩, ⟨n3, n4⟩, ⟨n5, n6⟩, n7, n8⟩ := num_out hall.out
      have c0 := hv.cellAt 0 _ l0
      have c3 := hv.cellAt 3 _ l3
      have c36 := hv.cellAt 36 _ h36
      have c37 := hv.cellAt 37 _ h37
      have r4 := hv.range 4 (bvs m.h) Hha.out
      have hlen : (bvs m.h).length = 32 := by rw [len_bvs, hh]
      have heq := eqZ13 m.h hh
      have hq := Hq0.out
      clear Hq0
      by_cases hk1 : m.k = 1
      · have kk1 : (m.k == 1) = true := beq_iff_eq.2 hk1
        have hq1 : q = decide (m.s ≤ 0 ∧ m.h = zH ∧ m.b.length = 0 ∧ m.ps.length = 0) := by
          rw [hq]
          unfold partsV
          by_cases h : m.s ≤ 0 ∧ m.h = zH ∧ m.b.length = 0 ∧ m.ps.length = 0
          · rw [decide_eq_true h, decide_eq_true ⟨⟨by omega, by omega⟩, ⟨by omega, by omega⟩, ⟨by omega, by omega⟩, ⟨by omega, by omega⟩, fun _ => ⟨h.1, h.2.1, h.2.2.1⟩, .inr h.2.2.2⟩]
          · rw [decide_eq_false h, decide_eq_false (fun x => h ⟨(x.2.2.2.2.1 hk1).1, (x.2.2.2.2.1 hk1).2.1, (x.2.2.2.2.1 hk1).2.2, by rcases x.2.2.2.2.2 with h | h <;> omega⟩)]
        have Hq1 := hid hq1
        clear hq hq1
        by_cases hs : m.s = 0
        case neg =>
          have ss : (m.s == 0) = false := beq_eq_false_iff_ne.2 hs
          have hq : q = false := by rw [Hq1.out, decide_eq_false_iff_not]; rintro ⟨h, _⟩; omega
          clear hk1 hs
          subst hq
          go_wp2
          go_ret
          exact ⟨rfl, hBr⟩
        have ss : (m.s == 0) = true := beq_iff_eq.2 hs
        by_cases hz : m.h = zH
        case neg =>
          have hq : q = false := by rw [Hq1.out, decide_eq_false_iff_not]; rintro ⟨_, h, _⟩; exact hz h
          rw [decide_eq_false hz] at heq
          clear hk1 hs hz
          subst hq
          go_wp2_with (first | refine wp_ldg 23 (.tmp 32) rfl rfl rfl r4 Try.underlying23 rfl (by rw [hlen]; exact size25) ?_ | refine wp_bldg 23 [] rfl rfl [] rfl bldH13 ?_)
          go_ret
          exact ⟨rfl, hBr⟩
        rw [decide_eq_true hz] at heq
        have Hz := hid hz
        clear hk1 hz
        have Hs := hid hs
        clear hs
        by_cases hb : m.b.length = 0
        case neg =>
          have bb : ((m.b.length : Int) == 0) = false := beq_eq_false_iff_ne.2 (by omega)
          have hq : q = false := by rw [Hq1.out, decide_eq_false_iff_not]; rintro ⟨_, _, h, _⟩; omega
          clear hb
          subst hq
          go_wp2_with (first | refine wp_ldg 23 (.tmp 32) rfl rfl rfl r4 Try.underlying23 rfl (by rw [hlen]; exact size25) ?_ | refine wp_bldg 23 [] rfl rfl [] rfl bldH13 ?_)
          go_ret
          exact ⟨rfl, hBr⟩
        have bb : ((m.b.length : Int) == 0) = true := beq_iff_eq.2 (by omega)
        have hq : q = ((m.ps.length : Int) == 0) := by
          rw [Hq1.out]
          by_cases hp : m.ps.length = 0
          · rw [decide_eq_true ⟨by rw [Hs.out]; omega, Hz.out, hb, hp⟩, hp]; rfl
          · rw [decide_eq_false (by rintro ⟨_, _, _, h⟩; omega)]
            exact (beq_eq_false_iff_ne.2 (by omega)).symm
        have Hq := hid hq
        clear hb hq
        go_wp2_with (first | refine wp_ldg 23 (.tmp 32) rfl rfl rfl r4 Try.underlying23 rfl (by rw [hlen]; exact size25) ?_ | refine wp_bldg 23 [] rfl rfl [] rfl bldH13 ?_)
        go_ret
        exact ⟨by rw [Hq.out]; rfl, hBr⟩
      have kk1 : (m.k == 1) = false := beq_eq_false_iff_ne.2 hk1
      by_cases hk2 : m.k = 2
      · have kk2 : (m.k == 2) = true := beq_iff_eq.2 hk2
        have hq2 : q = ((m.ps.length : Int) == 0) := by
          rw [hq]
          unfold partsV
          by_cases hp : m.ps.length = 0
          · rw [decide_eq_true ⟨⟨by omega, by omega⟩, ⟨by omega, by omega⟩, ⟨by omega, by omega⟩, ⟨by omega, by omega⟩, fun h => absurd h hk1, .inr hp⟩, hp]; rfl
          · rw [decide_eq_false (fun x => by rcases x.2.2.2.2.2 with h | h <;> omega)]
            exact (beq_eq_false_iff_ne.2 (by omega)).symm
        have Hq := hid hq2
        clear hk1 hk2 hq hq2
        go_wp2
        go_ret
        exact ⟨by rw [Hq.out]; rfl, hBr⟩
      have kk2 : (m.k == 2) = false := beq_eq_false_iff_ne.2 hk2
      have hq3 : q = (m.k == 3) := by
        rw [hq]
        unfold partsV
        by_cases hp : m.k = 3
        · rw [decide_eq_true ⟨⟨by omega, by omega⟩, ⟨by omega, by omega⟩, ⟨by omega, by omega⟩, ⟨by omega, by omega⟩, fun h => absurd h hk1, .inl hp⟩, hp]; rfl
        · rw [decide_eq_false (fun x => by have := x.1; omega)]
          exact (beq_eq_false_iff_ne.2 (by omega)).symm
      have Hq := hid hq3
      clear hk1 hk2 hq hq3
      go_wp2
      go_ret
      exact ⟨by rw [Hq.out]; rfl, hBr⟩
theorem tsz13_any (v : Value) (t : List UInt8) (F : Nat → Prop) (w : World) (hv : Rd w F v (bys t)) (hn : t.length ≤ 1000000) :
    Calls Try.prog 70 #[v] w fun e w' => e = .returned (.int .i64 ((tb1 t).length : Int)) ∧ Below w.heap.size w w' := by
  obtain ⟨A, c, rfl⟩ := hv.shape
  have hp := psz_bd t.length
  have hl : (tb1 t).length = psz t.length + t.length := by unfold tb1; rw [List.length_append, length_packed]
  have hw0 : IntKind.u64.wrap (t.length : Int) = (t.length : Int) := by rw [IntKind.wrap_u64]; omega
  have hw : IntKind.i64.wrap ((psz t.length : Int) + (t.length : Int)) = (psz t.length : Int) + (t.length : Int) := IntWalk.i64_in _ (by omega)
  go_enter Try.func70, Try.ntmps70
  go_wp2_with (fail)
  refine (putp_any (.slice none 0 0) [] t.length nob _ (Rd.nil _ _) (by omega) (by simp)).mono ?_
  rintro e w1 ⟨v1, rfl, ho1, hB1⟩
  rw [List.nil_append, length_packed] at ho1
  obtain ⟨A1, c1, rfl⟩ := own_shape ho1
  go_wp2
  go_ret
  exact ⟨by rw [hl]; simp, hB1⟩
set_option maxRecDepth 100000 in
set_option maxHeartbeats 4000000 in
theorem head13_any (m : Vt) (ub up : Value) (w : World) :
    Calls Try.prog 51 #[m.val ub up] w fun e w' => ∃ v', e = .returned v' ∧ NewB w w' v' (Vt.hd m) := by
  have hh := m.hh
  have hnum := fun i h => vt_num m ub up i h
  have hha := vt_hash hh ub up
  unfold Vt.val
  obtain ⟨l, hl⟩ : ∃ l, l = m.l ub up := ⟨_, rfl⟩
  rw [← hl] at hnum hha ⊢
  clear hl
  have hvb := Blk.new' w 27 l
  have hB : Below w.heap.size w (w.alloc (.cells l.toArray 27)) := (Below.refl _ _).alloc (Nat.le_refl _) _
  have Hnum := hid hnum
  have Hha := hid hha
  clear hnum hha
  go_enter Try.func51, Try.ntmps51
  go_wp2_with (fail)
  obtain ⟨w0, hw0⟩ : ∃ w0, w0 = w.alloc (.cells l.toArray 27) := ⟨_, rfl⟩
  rw [← hw0] at hvb hB ⊢
  clear hw0
  have hB0 := hB
  have hBs := hB.size
  obtain ⟨g, hg⟩ : ∃ g, g = w.heap.size := ⟨_, rfl⟩
  rw [← hg] at hvb ⊢
  clear hg hB
  refine (numbers13_any g w0).mono ?_
  rintro e w1 ⟨rfl, hB1⟩
  go_wp2
  go_loopw [3, 7] (fun bv iv wr => ∃ i : Nat, i ≤ 4 ∧ iv = .int .i64 i ∧ wr.ownsRow w0.heap.size 5 1 bv (hp13 m i).length (bvs (hp13 m i)) ∧ Below w0.heap.size w0 wr) (fun _ i _ => 4 - (intOf i).toNat)
  case atStart => exact ⟨0, Nat.zero_le _, rfl, World.ownsRow_nil _ _ _ _, hB1⟩
  case round =>
    clear hB1
    obtain ⟨i, hi, rfl, hro, hBr⟩ := hrel
    by_cases hlt : i < 4
    · have hI : (i : Int) < 4 := by omega
      have hpl := len_hp13 m i
      have hsu := hp13_succ m i
      obtain ⟨P, hP⟩ : ∃ P, P = hp13 m i := ⟨_, rfl⟩
      rw [← hP] at hro hpl hsu
      obtain ⟨x, hx⟩ : ∃ x, x = m.num i := ⟨_, rfl⟩
      obtain ⟨s, hs⟩ : ∃ s, s = nsz13 i := ⟨_, rfl⟩
      rw [← hx, ← hs] at hsu
      have hput := fun (v : Value) (F : Nat → Prop) W (hr : Rd W F v (bys P)) => putx_any v P (un x) (s : Int) F W hr (un_lt x) (by omega)
      rw [← hsu] at hput
      have hl := Hnum.out i hlt
      rw [← hx] at hl
      have e0 : (nE13 g i)[0]? = some (.pointer (some ⟨g, i, none⟩)) := rfl
      have e1 : (nE13 g i)[1]? = some (.int .i64 (s : Int)) := by rw [hs]; rfl
      have Hput := hid hput
      have hwx := un_wrap x
      clear hP hx hs hsu hput
      go_wp2_with (first | refine wp_idxW 98 (.tmp 6) (.tmp 7) rfl rfl (l := nV13 g) rfl rfl Try.underlying98 hlt aggN1 sizeN1 ?_; rw [nV13_at g i hlt] | refine wp_newst 97 5 (.tmp 9) rfl rfl rfl rfl rfl rfl zeroN1 (l := nE13 g i) rfl rfl sizeN1 (one_nE13 g i) (by simp [Act.put]) ?_; intro w2 hf2 hB2 hs2; refine wp_stop ?_)
      have hro := own_bel hro hB2
      have hB2 := hBr.trans (hB2.mono hBr.size)
      have hv2 := hvb.below hB2
      obtain ⟨gf, hgf⟩ : ∃ gf, gf = wr.heap.size := ⟨_, rfl⟩
      rw [← hgf] at hf2 ⊢
      clear hgf hs2
      have HP : Hid (∀ W, Ch nob w2 W → W.cell? ⟨gf, 0, none⟩ = some (.pointer (some ⟨g, i, none⟩))) := fun W h => (hf2.ch h (fun h => h)).cellAt 0 _ e0
      have HS : Hid (∀ W, Ch nob w2 W → W.cell? ⟨gf, 1, none⟩ = some (.int .i64 (s : Int))) := fun W h => (hf2.ch h (fun h => h)).cellAt 1 _ e1
      have HX : Hid (∀ W, Ch nob w2 W → W.cell? ⟨g, i, none⟩ = some (.int .i64 x)) := fun W h => (hv2.ch h (fun h => h)).cellAt i _ hl
      clear e0 e1 hl
      refine wp_go ?_
      go_upto_region 5 with (fail)
      refine wp_region_noPanic ?_
      refine wp_region_held_drew (S := Ch nob w2) (by kernel_rfl) ((Ch.refl _ _).drew) (fun hHeld => ?_)
      refine wpAnyH_take (i := 0) (oi := ⟨some 10, _, _, _, _, none⟩) (v := ?_) rfl (by kernel_rfl) (by kernel_rfl) (by kernel_rfl) (fun _ _ _ h => h) (Or.inl ⟨by rfl, ?_⟩) (by assumption) ?_
      rotate_left
      · intro w hSw; go_simp; try with_reducible rfl
      try simp only [Act.put, List.setIfInBounds_toArray, List.set_cons_zero, List.set_cons_succ]
      refine wpAnyH_take (i := 1) (oi := ⟨some 11, _, _, _, _, none⟩) (v := ?_) rfl (by kernel_rfl) (by kernel_rfl) (by kernel_rfl) (fun _ _ _ h => h) (Or.inl ⟨by rfl, ?_⟩) (by assumption) ?_
      rotate_left
      · intro w hSw; go_simp; try with_reducible rfl
      try simp only [Act.put, List.setIfInBounds_toArray, List.set_cons_zero, List.set_cons_succ]
      refine wpAnyH_take (i := 2) (oi := ⟨some 12, _, _, _, _, none⟩) (v := ?_) rfl (by kernel_rfl) (by kernel_rfl) (by kernel_rfl) (fun _ _ _ h => h) (Or.inl ⟨by rfl, ?_⟩) (by assumption) ?_
      rotate_left
      · intro w hSw; have hcw := HP.out w hSw; go_simp; try with_reducible rfl
      try simp only [Act.put, List.setIfInBounds_toArray, List.set_cons_zero, List.set_cons_succ]
      refine wpAnyH_take (i := 3) (oi := ⟨some 13, _, _, _, _, none⟩) (v := ?_) rfl (by kernel_rfl) (by kernel_rfl) (by kernel_rfl) (fun _ _ _ h => h) (Or.inl ⟨by rfl, ?_⟩) (by assumption) ?_
      rotate_left
      · intro w hSw; go_simp; try with_reducible rfl
      try simp only [Act.put, List.setIfInBounds_toArray, List.set_cons_zero, List.set_cons_succ]
      refine wpAnyH_take (i := 4) (oi := ⟨some 14, _, _, _, _, none⟩) (v := ?_) rfl (by kernel_rfl) (by kernel_rfl) (by kernel_rfl) (fun _ _ _ h => h) (Or.inl ⟨by rfl, ?_⟩) (by assumption) ?_
      rotate_left
      · intro w hSw; have hcw := HX.out w hSw; go_simp; try with_reducible rfl
      try simp only [Act.put, List.setIfInBounds_toArray, List.set_cons_zero, List.set_cons_succ]
      refine wpAnyH_take (i := 5) (oi := ⟨some 15, _, _, _, _, none⟩) (v := ?_) rfl (by kernel_rfl) (by kernel_rfl) (by kernel_rfl) (fun _ _ _ h => h) (Or.inl ⟨by rfl, ?_⟩) (by assumption) ?_
      rotate_left
      · intro w hSw; go_simp; try with_reducible rfl
      try simp only [Act.put, List.setIfInBounds_toArray, List.set_cons_zero, List.set_cons_succ]
      refine wpAnyH_take (i := 6) (oi := ⟨some 16, _, _, _, _, none⟩) (v := ?_) rfl (by kernel_rfl) (by kernel_rfl) (by kernel_rfl) (fun _ _ _ h => h) (Or.inl ⟨by rfl, ?_⟩) (by assumption) ?_
      rotate_left
      · intro w hSw; go_simp; try with_reducible rfl
      try simp only [Act.put, List.setIfInBounds_toArray, List.set_cons_zero, List.set_cons_succ]
      refine wpAnyH_take (i := 7) (oi := ⟨some 17, _, _, _, _, none⟩) (v := ?_) rfl (by kernel_rfl) (by kernel_rfl) (by kernel_rfl) (fun _ _ _ h => h) (Or.inl ⟨by rfl, ?_⟩) (by assumption) ?_
      rotate_left
      · intro w hSw; have hcw := HS.out w hSw; go_simp; try with_reducible rfl
      try simp only [Act.put, List.setIfInBounds_toArray, List.set_cons_zero, List.set_cons_succ]
      refine wpAnyH_ready (rs := [8]) (by kernel_rfl) (by simp) ?_
      refine AllReadyH.cons (o := ⟨some 18, _, _, _, _, none⟩) rfl (fun K hK => ?_) AllReadyH.nil
      go_simp
      refine (Hput.out _ _ _ (Rd.of_own (own_bel hro hHeld.below))).mono ?_
      rintro e' w11 ⟨v11, rfl, ho11, hB11⟩
      have hC11 := hHeld.belowR hB11
      have hlow := hHeld.size
      refine hK.out _ _ (hC11) (fun hHeld => ?_)
      clear hK K
      try simp only [Act.put, List.setIfInBounds_toArray, List.set_cons_zero, List.set_cons_succ]
      refine wpAnyH_take (i := 9) (oi := ⟨some 3, _, _, _, _, none⟩) (v := ?_) rfl (by kernel_rfl) (by kernel_rfl) (by kernel_rfl) (fun _ _ _ h => h) (Or.inl ⟨by rfl, ?_⟩) (by assumption) ?_
      rotate_left
      · intro w hSw; go_simp; try with_reducible rfl
      try simp only [Act.put, List.setIfInBounds_toArray, List.set_cons_zero, List.set_cons_succ]
      refine wpAnyH_done (by kernel_rfl) ?_ _
      refine NoPanic.normal ?_
      have hB3 := hB2.trans (hC11.below.mono hB2.size)
      have hro := own_weak (base' := w0.heap.size) ho11 (by have := hB2.size; omega)
      go_wp2
      go_roundw
      case rel => exact ⟨i + 1, by omega, by go_num, hro, hB3⟩
      case measure => simp [intOf]; omega
    · have hi' : i = 4 := by omega
      subst hi'
      have hI : ¬ (4 : Int) < 4 := by omega
      have hB := hBr
      have hhd := hp13_hd m
      obtain ⟨P0, hP0⟩ : ∃ P, P = hp13 m 4 := ⟨_, rfl⟩
      rw [← hP0] at hro hhd
      have hm0 : P0.length ≤ 8 := by rw [hP0]; exact len_hp13 m 4
      have Hhd := hid hhd
      clear hP0 hBr hhd
      have hv := hvb.below hB
      have hsl := fun W => run_sla_all Try.underlying23 size8 g 4 (by omega) W
      have hsr : Src wr (some ⟨g, 4, none⟩) 32 (bvs m.h) := ⟨by rw [len_bvs, hh], fun j u hu => ⟨g, 4, rfl, hv.cellAt _ u (Hha.out j u hu)⟩⟩
      go_wp2_with (refine wp_app (.tmp 20) (.tmp 22) slB rfl rfl rfl hro rfl hsr (oneCell_bvs _) (by simp only [maxLen]; omega) (by omega) hB.size ?_; intro y1 z1 hro2 hG1 _; refine wp_stop ?_)
      have hB := hB.grown hG1 hB.size (fun k hk => (hro.lt k hk).1)
      rw [show P0.length + 32 = P0.length + m.h.length from by rw [hh]] at hro2
      have hro3 := own_join hro2
      rw [Hhd.out] at hro3
      clear hro2 hG1 hsr hsl hv
      refine wp_go ?_
      go_wp2
      go_ret
      exact ⟨_, rfl, own_weak hro3 hBs, hB0.trans (hB.mono hBs)⟩
set_option maxRecDepth 100000 in
set_option maxHeartbeats 4000000 in
theorem size13g_any (m : Vt) (ub up : Value) (F1 F2 : Nat → Prop) (w : World) (hb : m.b.length ≤ 1000000) (hn : m.ps.length ≤ 1000) (hst : ∀ t ∈ m.ps, t.length ≤ 1000000) (hub : Rd w F1 ub (bys m.b)) (hup : Rd w F2 up (tx m.ps)) :
    Calls Try.prog 49 #[m.val ub up] w fun e w' => e = .returned (.int .i64 ((Vt.by m).length : Int)) ∧ Below w.heap.size w w' := by
  have hh := m.hh
  have hhd := fun W (_ : Rd W F1 ub (bys m.b)) (_ : Rd W F2 up (tx m.ps)) => head13_any m ub up W
  obtain ⟨AB, cb, rfl⟩ := hub.shape
  obtain ⟨AP, cpp, rfl, _, _⟩ := hup.slShape
  unfold Vt.val at hhd ⊢
  have hby := len_by13 m
  have hpb := psz_bd m.b.length
  have hpp := psz_bd m.ps.length
  have htl : (tb1 m.b).length = psz m.b.length + m.b.length := by unfold tb1; rw [List.length_append, length_packed]
  obtain ⟨l, hl⟩ : ∃ l, l = m.l (.slice AB m.b.length cb) (.slice AP m.ps.length cpp) := ⟨_, rfl⟩
  have h36 : l[36]? = some (.slice AB m.b.length cb) := by rw [hl]; exact vt_body hh _ _
  have h37 : l[37]? = some (.slice AP m.ps.length cpp) := by rw [hl]; exact vt_parts hh _ _
  have hmn : l.length = 38 := by rw [hl]; exact len_vt m _ _
  rw [← hl] at hhd ⊢
  clear hl
  have Hmn := hid hmn
  have hvb := Blk.new' w 27 l
  have hB : Below w.heap.size w (w.alloc (.cells l.toArray 27)) := (Below.refl _ _).alloc (Nat.le_refl _) _
  have hub := hub.below hB
  have hup := hup.below hB
  obtain ⟨T, hT⟩ : ∃ T, T = (tb1 m.b).length := ⟨_, rfl⟩
  obtain ⟨P, hP⟩ : ∃ P, P = psz m.ps.length := ⟨_, rfl⟩
  have hTb : T ≤ 1000010 := by omega
  have hPb : P ≤ 10 := by omega
  have hw0 : IntKind.u64.wrap (m.ps.length : Int) = (m.ps.length : Int) := by rw [IntKind.wrap_u64]; omega
  have hw1 : IntKind.i64.wrap ((39 : Int) + (T : Int)) = (39 : Int) + (T : Int) := IntWalk.i64_in _ (by omega)
  have hw2 : IntKind.i64.wrap ((39 : Int) + (T : Int) + (P : Int)) = (39 : Int) + (T : Int) + (P : Int) := IntWalk.i64_in _ (by omega)
  have htz := fun W h => tsz13_any (.slice AB m.b.length cb) m.b F1 W h hb
  have hpz := fun W => putp_any (.slice none 0 0) [] m.ps.length nob W (Rd.nil _ _) (by omega) (by simp)
  have hL1 : (Vt.hd m).length = 39 := len_vhd m
  obtain ⟨HD, hHD⟩ : ∃ HD, HD = Vt.hd m := ⟨_, rfl⟩
  obtain ⟨PK, hPK⟩ : ∃ PK, PK = packed m.ps.length := ⟨_, rfl⟩
  have hL2 : PK.length = P := by rw [hPK, length_packed, hP]
  rw [← hT] at htz
  simp only [List.nil_append] at hpz
  rw [← hHD] at hhd hL1
  rw [← hPK] at hpz
  have Htz := hid htz
  have Hpz := hid hpz
  have Hhd := hid hhd
  have HT := hid hT
  have HP := hid hP
  clear hT hP htz hpz hhd hHD hPK hmn
  go_enter Try.func49, Try.ntmps49
  go_upto_region 1 with (fail)
  obtain ⟨w0, hw0⟩ : ∃ w0, w0 = w.alloc (.cells l.toArray 27) := ⟨_, rfl⟩
  rw [← hw0] at hvb hB hub hup ⊢
  clear hw0
  obtain ⟨g, hg⟩ : ∃ g, g = w.heap.size := ⟨_, rfl⟩
  rw [← hg] at hvb ⊢
  clear hg
  have HV : Hid (∀ W, Ch nob w0 W → W.rangeAt g 0 l) := fun W h => (hvb.ch h (fun h => h)).whole
  have HB : Hid (∀ W, Ch nob w0 W → W.cell? ⟨g, 36, none⟩ = some (.slice AB m.b.length cb)) := fun W h => (hvb.ch h (fun h => h)).cellAt 36 _ h36
  have HQ : Hid (∀ W, Ch nob w0 W → W.cell? ⟨g, 37, none⟩ = some (.slice AP m.ps.length cpp)) := fun W h => (hvb.ch h (fun h => h)).cellAt 37 _ h37
  refine wp_region_noPanic ?_
  refine wp_region_held_drew (S := Ch nob w0) (by kernel_rfl) ((Ch.refl _ _).drew) (fun hHeld => ?_)
  refine wpAnyH_take (i := 0) (oi := ⟨some 6, .load 27 (.tmp 1), _, _, _, none⟩) (v := _) rfl (by kernel_rfl) (by kernel_rfl) (by kernel_rfl) (fun _ _ _ h => h) (yieldsIf_load_mid (by rfl) 27 (.tmp 1) (by rfl) _ (0) (by rfl) _ _ (fun _ hs => HV.out _ hs) Try.underlying27 rfl (by rw [Hmn.out]; exact sizeVt)) (by assumption) ?_
  try simp only [Act.put, List.setIfInBounds_toArray, List.set_cons_zero, List.set_cons_succ]
  refine wpAnyH_take (i := 3) (oi := ⟨some 9, _, _, _, _, none⟩) (v := ?_) rfl (by kernel_rfl) (by kernel_rfl) (by kernel_rfl) (fun _ _ _ h => h) (Or.inl ⟨by rfl, ?_⟩) (by assumption) ?_
  rotate_left
  · intro w hSw; go_simp; try with_reducible rfl
  try simp only [Act.put, List.setIfInBounds_toArray, List.set_cons_zero, List.set_cons_succ]
  refine wpAnyH_take (i := 4) (oi := ⟨some 10, _, _, _, _, none⟩) (v := ?_) rfl (by kernel_rfl) (by kernel_rfl) (by kernel_rfl) (fun _ _ _ h => h) (Or.inl ⟨by rfl, ?_⟩) (by assumption) ?_
  rotate_left
  · intro w hSw; have hcw := HB.out w hSw; go_simp; try with_reducible rfl
  try simp only [Act.put, List.setIfInBounds_toArray, List.set_cons_zero, List.set_cons_succ]
  refine wpAnyH_take (i := 7) (oi := ⟨some 13, _, _, _, _, none⟩) (v := ?_) rfl (by kernel_rfl) (by kernel_rfl) (by kernel_rfl) (fun _ _ _ h => h) (Or.inl ⟨by rfl, ?_⟩) (by assumption) ?_
  rotate_left
  · intro w hSw; go_simp; try with_reducible rfl
  try simp only [Act.put, List.setIfInBounds_toArray, List.set_cons_zero, List.set_cons_succ]
  refine wpAnyH_take (i := 8) (oi := ⟨some 14, _, _, _, _, none⟩) (v := ?_) rfl (by kernel_rfl) (by kernel_rfl) (by kernel_rfl) (fun _ _ _ h => h) (Or.inl ⟨by rfl, ?_⟩) (by assumption) ?_
  rotate_left
  · intro w hSw; have hcw := HQ.out w hSw; go_simp; try with_reducible rfl
  try simp only [Act.put, List.setIfInBounds_toArray, List.set_cons_zero, List.set_cons_succ]
  refine wpAnyH_take (i := 9) (oi := ⟨some 15, _, _, _, _, none⟩) (v := ?_) rfl (by kernel_rfl) (by kernel_rfl) (by kernel_rfl) (fun _ _ _ h => h) (Or.inl ⟨by rfl, ?_⟩) (by assumption) ?_
  rotate_left
  · intro w hSw; go_simp; try with_reducible rfl
  try simp only [Act.put, List.setIfInBounds_toArray, List.set_cons_zero, List.set_cons_succ]
  refine wpAnyH_take (i := 10) (oi := ⟨some 16, _, _, _, _, none⟩) (v := ?_) rfl (by kernel_rfl) (by kernel_rfl) (by kernel_rfl) (fun _ _ _ h => h) (Or.inl ⟨by rfl, ?_⟩) (by assumption) ?_
  rotate_left
  · intro w hSw; go_simp; try with_reducible rfl
  try simp only [Act.put, List.setIfInBounds_toArray, List.set_cons_zero, List.set_cons_succ]
  refine wpAnyH_ready (rs := [1]) (by kernel_rfl) (by simp) ?_
  refine AllReadyH.cons (o := ⟨some 7, _, _, _, _, none⟩) rfl (fun K hK => ?_) AllReadyH.nil
  go_simp
  refine (Hhd.out _ (hub.ext hHeld) (hup.ext hHeld)).mono ?_
  rintro e' w11 ⟨v11, rfl, ho11, hB11⟩
  obtain ⟨A11, c11, rfl⟩ := own_shape ho11
  have hC11 := hHeld.belowR hB11
  refine hK.out _ _ (hC11) (fun hHeld => ?_)
  clear hK K
  try simp only [Act.put, List.setIfInBounds_toArray, List.set_cons_zero, List.set_cons_succ]
  refine wpAnyH_take (i := 2) (oi := ⟨some 8, _, _, _, _, none⟩) (v := ?_) rfl (by kernel_rfl) (by kernel_rfl) (by kernel_rfl) (fun _ _ _ h => h) (Or.inl ⟨by rfl, ?_⟩) (by assumption) ?_
  rotate_left
  · intro w hSw; go_simp; try with_reducible rfl
  try simp only [Act.put, List.setIfInBounds_toArray, List.set_cons_zero, List.set_cons_succ]
  refine wpAnyH_ready (rs := [5]) (by kernel_rfl) (by simp) ?_
  refine AllReadyH.cons (o := ⟨some 11, _, _, _, _, none⟩) rfl (fun K hK => ?_) AllReadyH.nil
  go_simp
  refine (Htz.out _ (hub.ext hHeld)).mono ?_
  rintro e' w12 ⟨rfl, hB12⟩
  have hC12 := hHeld.belowR hB12
  refine hK.out _ _ (hC12) (fun hHeld => ?_)
  clear hK K
  try simp only [Act.put, List.setIfInBounds_toArray, List.set_cons_zero, List.set_cons_succ]
  refine wpAnyH_take (i := 6) (oi := ⟨some 12, _, _, _, _, none⟩) (v := ?_) rfl (by kernel_rfl) (by kernel_rfl) (by kernel_rfl) (fun _ _ _ h => h) (Or.inl ⟨by rfl, ?_⟩) (by assumption) ?_
  rotate_left
  · intro w hSw; go_simp; try with_reducible rfl
  try simp only [Act.put, List.setIfInBounds_toArray, List.set_cons_zero, List.set_cons_succ]
  refine wpAnyH_ready (rs := [11]) (by kernel_rfl) (by simp) ?_
  refine AllReadyH.cons (o := ⟨some 17, _, _, _, _, none⟩) rfl (fun K hK => ?_) AllReadyH.nil
  go_simp
  refine (Hpz.out _).mono ?_
  rintro e' w13 ⟨v13, rfl, ho13, hB13⟩
  obtain ⟨A13, c13, rfl⟩ := own_shape ho13
  have hC13 := hHeld.belowR hB13
  refine hK.out _ _ (hC13) (fun hHeld => ?_)
  clear hK K
  try simp only [Act.put, List.setIfInBounds_toArray, List.set_cons_zero, List.set_cons_succ]
  refine wpAnyH_take (i := 12) (oi := ⟨some 18, _, _, _, _, none⟩) (v := ?_) rfl (by kernel_rfl) (by kernel_rfl) (by kernel_rfl) (fun _ _ _ h => h) (Or.inl ⟨by rfl, ?_⟩) (by assumption) ?_
  rotate_left
  · intro w hSw; go_simp; try with_reducible rfl
  try simp only [Act.put, List.setIfInBounds_toArray, List.set_cons_zero, List.set_cons_succ]
  refine wpAnyH_take (i := 13) (oi := ⟨some 19, _, _, _, _, none⟩) (v := ?_) rfl (by kernel_rfl) (by kernel_rfl) (by kernel_rfl) (fun _ _ _ h => h) (Or.inl ⟨by rfl, ?_⟩) (by assumption) ?_
  rotate_left
  · intro w hSw; go_simp; try with_reducible rfl
  try simp only [Act.put, List.setIfInBounds_toArray, List.set_cons_zero, List.set_cons_succ]
  refine wpAnyH_take (i := 14) (oi := ⟨some 3, _, _, _, _, none⟩) (v := ?_) rfl (by kernel_rfl) (by kernel_rfl) (by kernel_rfl) (fun _ _ _ h => h) (Or.inl ⟨by rfl, ?_⟩) (by assumption) ?_
  rotate_left
  · intro w hSw; go_simp; try with_reducible rfl
  try simp only [Act.put, List.setIfInBounds_toArray, List.set_cons_zero, List.set_cons_succ]
  refine wpAnyH_done (by kernel_rfl) ?_ _
  refine NoPanic.normal ?_
  have hB2 : Below w0.heap.size w0 _ := hHeld.below
  obtain ⟨N, hN⟩ : ∃ N, N = 39 + T + P := ⟨_, rfl⟩
  rw [show (39 : Int) + (T : Int) + (P : Int) = (N : Int) from by omega]
  have Hby : Hid ((Vt.by m).length = N + (m.ps.flatMap tb1).length) := by show _ = _; rw [hN, HT.out, HP.out]; omega
  have hNb : N ≤ 2000000 := by omega
  have c37 := (hvb.below hB2).cellAt 37 _ h37
  clear hw1 hw2 HB HQ HV Htz Hpz Hhd hN HT HP hTb hPb hL1 hL2 hHeld
  go_wp2
  clear c37
  go_loopw [3, 23] (fun nv iv wr => ∃ i : Nat, i ≤ m.ps.length ∧ iv = .int .i64 i ∧ nv = .int .i64 ((N + ((m.ps.take i).flatMap tb1).length : Nat) : Int) ∧ Below w0.heap.size w0 wr) (fun _ i _ => m.ps.length - (intOf i).toNat)
  case atStart => exact ⟨0, Nat.zero_le _, rfl, by rw [List.take_zero, List.flatMap_nil]; rfl, hB2⟩
  case round =>
    clear hB2
    obtain ⟨i, hi, rfl, rfl, hBr⟩ := hrel
    by_cases hlt : i < m.ps.length
    · obtain ⟨t, ht⟩ : ∃ t, m.ps[i]? = some t := ⟨_, List.getElem?_eq_getElem hlt⟩
      have hI : (i : Int) < (m.ps.length : Int) := by omega
      obtain ⟨G, off, u, rfl, hG, hcu, hu⟩ := Rd.elem (hup.below hBr) i (bys t) (by rw [List.getElem?_map, ht]; rfl)
      obtain ⟨A1, c1, rfl⟩ := hu.shape
      have htl := hst t (List.mem_of_getElem? ht)
      have hlf := len_partsG (m.ps.take i) (fun x hx => hst x (List.mem_of_mem_take hx))
      rw [List.length_take] at hlf
      obtain ⟨Z, hZ⟩ : ∃ Z, Z = N + ((m.ps.take i).flatMap tb1).length := ⟨_, rfl⟩
      obtain ⟨s, hs⟩ : ∃ s, s = (tb1 t).length := ⟨_, rfl⟩
      have hsl : s ≤ 1000010 := by have := psz_bd t.length; rw [hs]; unfold tb1; rw [List.length_append, length_packed]; omega
      have hZb : Z ≤ 1100000000 := by rw [hZ]; omega
      have hnx : N + ((m.ps.take (i + 1)).flatMap tb1).length = Z + s := by rw [take_snocT ht, List.flatMap_append, List.flatMap_singleton, List.length_append, hZ, hs]; omega
      rw [← hZ]
      have htz := tsz13_any _ t _ _ hu (by omega)
      rw [← hs] at htz
      have Hnx := hid hnx
      have Htz := hid htz
      have hwr : IntKind.i64.wrap ((Z : Int) + (s : Int)) = (Z : Int) + (s : Int) := IntWalk.i64_in _ (by omega)
      clear hZ hs hnx htz hlf ht
      go_wp2_with (fail)
      refine Htz.out.mono ?_
      rintro e w2 ⟨rfl, hB2⟩
      have hB2 := hBr.trans (hB2.mono hBr.size)
      go_wp2
      go_roundw
      case rel => exact ⟨i + 1, by omega, by go_num, by rw [Hnx.out]; simp, hB2⟩
      case measure => simp [intOf]; omega
    · have hi' : i = m.ps.length := by omega
      subst hi'
      have hI : ¬ (m.ps.length : Int) < (m.ps.length : Int) := by omega
      rw [List.take_length, ← Hby.out]
      go_wp2
      go_ret
      exact ⟨rfl, hB.trans (hBr.mono hB.size)⟩
end Go.Proofs.Ytkoncjcnpconkaa
