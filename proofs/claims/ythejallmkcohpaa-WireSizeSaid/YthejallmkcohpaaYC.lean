/- YC: layer 8: contracts of wire: fields, Size, formed. -/
import Derived.Test.YthejallmkcohpaaY4
import Derived.Test.YthejallmkcohpaaVE
import Derived.Test.YthejallmkcohpaaN6
import Derived.Test.YthejallmkcohpaaN7
namespace Go.V
open Go.RowKit
def fsz (i : Nat) : Nat := if i < 2 then 1 else 2
def flo (i : Nat) : Nat := if i = 0 then 1 else 0
def fhi (i : Nat) : Nat := if i = 0 then 12 else if i = 1 then 15 else if i = 3 then 40 else 60
def fE (g i : Nat) : List Value := [.pointer (some ⟨g, i, none⟩), .int .i64 (fsz i : Int), .int .i64 (flo i : Int), .int .i64 (fhi i : Int)]
def fV (g : Nat) : List Value := fE g 0 ++ fE g 1 ++ fE g 2 ++ fE g 3 ++ fE g 4
theorem fV_at (g i : Nat) (h : i < 5) : ((fV g).drop (i * 4)).take 4 = fE g i := by
  match i, h with
  | 0, _ => rfl
  | 1, _ => rfl
  | 2, _ => rfl
  | 3, _ => rfl
  | 4, _ => rfl
def soff (i : Nat) : Nat := if i ≤ 2 then i else 2 * i - 2
theorem soff_succ (i : Nat) (h : i < 5) : soff (i + 1) = soff i + fsz i := by
  unfold soff fsz
  repeat' split
  all_goals omega
structure MgSm (m : Mg) : Prop where
  b : m.b.length ≤ 1000000
  p : m.ps.length ≤ 1000
  t : ∀ t ∈ m.ps, t.length ≤ 1000000
theorem len_partsG : ∀ (ps : List (List UInt8)), (∀ t ∈ ps, t.length ≤ 1000000) → (ps.flatMap tb1).length ≤ 1000010 * ps.length
  | [], _ => by simp
  | t :: ps, h => by
    rw [List.flatMap_cons, List.length_append, List.length_cons]
    have h1 : (tb1 t).length ≤ 1000010 := by
      have := psz_bd t.length
      have := h t (by simp)
      unfold tb1
      rw [List.length_append, length_packed]
      omega
    have h2 := len_partsG ps (fun x hx => h x (by simp [hx]))
    omega
theorem one_fE (g i : Nat) : ∀ v ∈ fE g i, v.oneCell' = true := by
  intro v hv
  simp only [fE, List.mem_cons, List.not_mem_nil, or_false] at hv
  rcases hv with rfl | rfl | rfl | rfl <;> rfl
theorem one_fV (g : Nat) : ∀ v ∈ fV g, v.oneCell' = true := by
  intro v hv
  simp only [fV, List.mem_append] at hv
  rcases hv with (((hv | hv) | hv) | hv) | hv <;> exact one_fE _ _ v hv
theorem len_fV (g : Nat) : (fV g).length = 20 := rfl
theorem y_bld {P : Program} {ops : Array Oper} {S : World → Prop} {o : Oper} {a : Act} (hw : Region.wanted o (yielded ops a.tmps) = true) (t : TypeId) (parts : List (Nat × Operand)) (ho : o.op = .build t parts.toArray) (vs : List (Nat × Value)) (hp : (parts.map fun x => (x.1, a.eval x.2)) = vs) {cells : Array Value} (hr : ∀ W : World, (Instr.build t vs.toArray).run P W = .ok (.agg cells) W) : YieldsIf P ops S o (.agg cells) a := by
  refine .inl ⟨hw, fun w _ => ?_⟩
  have e : (parts.toArray.map fun (i, x) => (i, a.eval x)) = vs.toArray := by rw [List.map_toArray, ← hp]
  unfold execOp
  simp only [ho, e, Sem.run_bind, Sem.run_pure, hr, Result.andThen_ok]
end Go.V
namespace Go.Proofs.Ythejallmkcohpaa
open Go.RowKit Go.V
theorem hb48 (g : Nat) (W : World) : (Instr.build 48 ([(0, .agg #[.pointer (some ⟨g, 0, none⟩), .int .i64 1, .int .i64 1, .int .i64 12]), (1, .agg #[.pointer (some ⟨g, 1, none⟩), .int .i64 1, .int .i64 0, .int .i64 15]), (2, .agg #[.pointer (some ⟨g, 2, none⟩), .int .i64 2, .int .i64 0, .int .i64 60]), (3, .agg #[.pointer (some ⟨g, 3, none⟩), .int .i64 2, .int .i64 0, .int .i64 40]), (4, .agg #[.pointer (some ⟨g, 4, none⟩), .int .i64 2, .int .i64 0, .int .i64 60])] : List (Nat × Value)).toArray).run Try.prog W = .ok (.agg (fV g).toArray) W := by kernel_rfl
theorem sizeFs : (Try.prog.info? 48).map (·.size) = some 20 := by kernel_rfl
theorem sizeF1 : (Try.prog.info? 47).map (·.size) = some 4 := by kernel_rfl
theorem len_by2 {m : Mg} (hh : m.h.length = 32) : (Mg.by m).length = 40 + (psz m.b.length + m.b.length) + psz m.ps.length + (m.ps.flatMap tb1).length := by
  unfold Mg.by
  simp only [List.length_append, len_hd hh, length_packed]
def zF : List Value := [.pointer none, .int .i64 0, .int .i64 0, .int .i64 0]
theorem zeroF1 : (Try.prog.info? 47).map (·.zero) = some (some (.agg zF.toArray)) := by kernel_rfl
def zFs : List Value := zF ++ zF ++ zF ++ zF ++ zF
theorem zeroFs : (Try.prog.info? 48).map (·.zero) = some (some (.agg zFs.toArray)) := by kernel_rfl
theorem aggF (W : World) : (isAgg 47).run Try.prog W = .ok true W := by kernel_rfl
set_option maxRecDepth 100000 in
set_option maxHeartbeats 2000000 in
theorem fields_any (g : Nat) (w : World) :
    Calls Try.prog 21 #[.pointer (some ⟨g, 0, none⟩)] w fun e w' => e = .returned (.agg (fV g).toArray) ∧ Below w.heap.size w w' := by
  have hB : Below w.heap.size w (w.alloc (.cells zFs.toArray 48)) := (Below.refl _ _).alloc (Nat.le_refl _) _
  have hz := Blk.new' w 48 zFs
  go_enter Try.func21, Try.ntmps21
  go_wp2_with (refine wp_new 48 rfl rfl zeroFs ?_; refine wp_stop ?_)
  obtain ⟨w0, hw0⟩ : ∃ w0, w0 = w.alloc (.cells zFs.toArray 48) := ⟨_, rfl⟩
  rw [← hw0] at hB hz ⊢
  clear hw0
  obtain ⟨g0, hg0⟩ : ∃ g0, g0 = w.heap.size := ⟨_, rfl⟩
  rw [← hg0] at hz ⊢
  have hgw : w.heap.size ≤ g0 := by omega
  clear hg0
  refine wp_go ?_
  go_upto_region 1 with (fail)
  refine wp_region_noPanic ?_
  refine wp_region_held_drew (S := fun _ => True) (by kernel_rfl) (trivial) (fun hHeld => ?_)
  refine wpAnyH_take (i := 0) (oi := ⟨some 3, _, _, _, _, none⟩) (v := ?_) rfl (by kernel_rfl) (by kernel_rfl) (by kernel_rfl) (fun _ _ _ h => h) (Or.inl ⟨by rfl, ?_⟩) (by assumption) ?_
  rotate_left
  · intro w hSw; go_simp; try with_reducible rfl
  try simp only [Act.put, List.setIfInBounds_toArray, List.set_cons_zero, List.set_cons_succ]
  refine wpAnyH_take (i := 1) (oi := ⟨some 4, _, _, _, _, none⟩) (v := ?_) rfl (by kernel_rfl) (by kernel_rfl) (by kernel_rfl) (fun _ _ _ h => h) (Or.inl ⟨by rfl, ?_⟩) (by assumption) ?_
  rotate_left
  · intro w hSw; go_simp; try with_reducible rfl
  try simp only [Act.put, List.setIfInBounds_toArray, List.set_cons_zero, List.set_cons_succ]
  refine wpAnyH_take (i := 2) (oi := ⟨some 5, _, _, _, _, none⟩) (v := ?_) rfl (by kernel_rfl) (by kernel_rfl) (by kernel_rfl) (fun _ _ _ h => h) (Or.inl ⟨by rfl, ?_⟩) (by assumption) ?_
  rotate_left
  · intro w hSw; go_simp; try with_reducible rfl
  try simp only [Act.put, List.setIfInBounds_toArray, List.set_cons_zero, List.set_cons_succ]
  refine wpAnyH_take (i := 3) (oi := ⟨some 6, _, _, _, _, none⟩) (v := ?_) rfl (by kernel_rfl) (by kernel_rfl) (by kernel_rfl) (fun _ _ _ h => h) (Or.inl ⟨by rfl, ?_⟩) (by assumption) ?_
  rotate_left
  · intro w hSw; go_simp; try with_reducible rfl
  try simp only [Act.put, List.setIfInBounds_toArray, List.set_cons_zero, List.set_cons_succ]
  refine wpAnyH_take (i := 4) (oi := ⟨some 7, _, _, _, _, none⟩) (v := ?_) rfl (by kernel_rfl) (by kernel_rfl) (by kernel_rfl) (fun _ _ _ h => h) (Or.inl ⟨by rfl, ?_⟩) (by assumption) ?_
  rotate_left
  · intro w hSw; go_simp; try with_reducible rfl
  try simp only [Act.put, List.setIfInBounds_toArray, List.set_cons_zero, List.set_cons_succ]
  refine wpAnyH_take (i := 5) (oi := ⟨some 8, _, _, _, _, none⟩) (v := ?_) rfl (by kernel_rfl) (by kernel_rfl) (by kernel_rfl) (fun _ _ _ h => h) (Or.inl ⟨by rfl, ?_⟩) (by assumption) ?_
  rotate_left
  · intro w hSw; go_simp; try with_reducible rfl
  try simp only [Act.put, List.setIfInBounds_toArray, List.set_cons_zero, List.set_cons_succ]
  refine wpAnyH_take (i := 6) (oi := ⟨some 9, _, _, _, _, none⟩) (v := ?_) rfl (by kernel_rfl) (by kernel_rfl) (by kernel_rfl) (fun _ _ _ h => h) (Or.inl ⟨by rfl, ?_⟩) (by assumption) ?_
  rotate_left
  · intro w hSw; go_simp; try with_reducible rfl
  try simp only [Act.put, List.setIfInBounds_toArray, List.set_cons_zero, List.set_cons_succ]
  refine wpAnyH_take (i := 7) (oi := ⟨some 10, _, _, _, _, none⟩) (v := ?_) rfl (by kernel_rfl) (by kernel_rfl) (by kernel_rfl) (fun _ _ _ h => h) (Or.inl ⟨by rfl, ?_⟩) (by assumption) ?_
  rotate_left
  · intro w hSw; go_simp; try with_reducible rfl
  try simp only [Act.put, List.setIfInBounds_toArray, List.set_cons_zero, List.set_cons_succ]
  refine wpAnyH_take (i := 8) (oi := ⟨some 11, _, _, _, _, none⟩) (v := ?_) rfl (by kernel_rfl) (by kernel_rfl) (by kernel_rfl) (fun _ _ _ h => h) (Or.inl ⟨by rfl, ?_⟩) (by assumption) ?_
  rotate_left
  · intro w hSw; go_simp; try with_reducible rfl
  try simp only [Act.put, List.setIfInBounds_toArray, List.set_cons_zero, List.set_cons_succ]
  refine wpAnyH_take (i := 9) (oi := ⟨some 12, _, _, _, _, none⟩) (v := ?_) rfl (by kernel_rfl) (by kernel_rfl) (by kernel_rfl) (fun _ _ _ h => h) (Or.inl ⟨by rfl, ?_⟩) (by assumption) ?_
  rotate_left
  · intro w hSw; go_simp; try with_reducible rfl
  try simp only [Act.put, List.setIfInBounds_toArray, List.set_cons_zero, List.set_cons_succ]
  refine wpAnyH_take (i := 10) (oi := ⟨some 13, _, _, _, _, none⟩) (v := ?_) rfl (by kernel_rfl) (by kernel_rfl) (by kernel_rfl) (fun _ _ _ h => h) (Or.inl ⟨by rfl, ?_⟩) (by assumption) ?_
  rotate_left
  · intro w hSw; go_simp; try with_reducible rfl
  try simp only [Act.put, List.setIfInBounds_toArray, List.set_cons_zero, List.set_cons_succ]
  refine wpAnyH_take (i := 11) (oi := ⟨some 14, _, _, _, _, none⟩) (v := ?_) rfl (by kernel_rfl) (by kernel_rfl) (by kernel_rfl) (fun _ _ _ h => h) (Or.inl ⟨by rfl, ?_⟩) (by assumption) ?_
  rotate_left
  · intro w hSw; go_simp; try with_reducible rfl
  try simp only [Act.put, List.setIfInBounds_toArray, List.set_cons_zero, List.set_cons_succ]
  refine wpAnyH_take (i := 12) (oi := ⟨some 15, _, _, _, _, none⟩) (v := ?_) rfl (by kernel_rfl) (by kernel_rfl) (by kernel_rfl) (fun _ _ _ h => h) (Or.inl ⟨by rfl, ?_⟩) (by assumption) ?_
  rotate_left
  · intro w hSw; go_simp; try with_reducible rfl
  try simp only [Act.put, List.setIfInBounds_toArray, List.set_cons_zero, List.set_cons_succ]
  refine wpAnyH_take (i := 13) (oi := ⟨some 16, _, _, _, _, none⟩) (v := ?_) rfl (by kernel_rfl) (by kernel_rfl) (by kernel_rfl) (fun _ _ _ h => h) (Or.inl ⟨by rfl, ?_⟩) (by assumption) ?_
  rotate_left
  · intro w hSw; go_simp; try with_reducible rfl
  try simp only [Act.put, List.setIfInBounds_toArray, List.set_cons_zero, List.set_cons_succ]
  refine wpAnyH_take (i := 14) (oi := ⟨some 17, _, _, _, _, none⟩) (v := ?_) rfl (by kernel_rfl) (by kernel_rfl) (by kernel_rfl) (fun _ _ _ h => h) (Or.inl ⟨by rfl, ?_⟩) (by assumption) ?_
  rotate_left
  · intro w hSw; go_simp; try with_reducible rfl
  try simp only [Act.put, List.setIfInBounds_toArray, List.set_cons_zero, List.set_cons_succ]
  refine wpAnyH_take (i := 15) (oi := ⟨some 18, _, _, _, _, none⟩) (v := ?_) rfl (by kernel_rfl) (by kernel_rfl) (by kernel_rfl) (fun _ _ _ h => h) (Or.inl ⟨by rfl, ?_⟩) (by assumption) ?_
  rotate_left
  · intro w hSw; go_simp; try with_reducible rfl
  try simp only [Act.put, List.setIfInBounds_toArray, List.set_cons_zero, List.set_cons_succ]
  refine wpAnyH_take (i := 16) (oi := ⟨some 19, _, _, _, _, none⟩) (v := ?_) rfl (by kernel_rfl) (by kernel_rfl) (by kernel_rfl) (fun _ _ _ h => h) (Or.inl ⟨by rfl, ?_⟩) (by assumption) ?_
  rotate_left
  · intro w hSw; go_simp; try with_reducible rfl
  try simp only [Act.put, List.setIfInBounds_toArray, List.set_cons_zero, List.set_cons_succ]
  refine wpAnyH_take (i := 17) (oi := ⟨some 20, _, _, _, _, none⟩) (v := ?_) rfl (by kernel_rfl) (by kernel_rfl) (by kernel_rfl) (fun _ _ _ h => h) (Or.inl ⟨by rfl, ?_⟩) (by assumption) ?_
  rotate_left
  · intro w hSw; go_simp; try with_reducible rfl
  try simp only [Act.put, List.setIfInBounds_toArray, List.set_cons_zero, List.set_cons_succ]
  refine wpAnyH_take (i := 18) (oi := ⟨some 21, _, _, _, _, none⟩) (v := ?_) rfl (by kernel_rfl) (by kernel_rfl) (by kernel_rfl) (fun _ _ _ h => h) (Or.inl ⟨by rfl, ?_⟩) (by assumption) ?_
  rotate_left
  · intro w hSw; go_simp; try with_reducible rfl
  try simp only [Act.put, List.setIfInBounds_toArray, List.set_cons_zero, List.set_cons_succ]
  refine wpAnyH_take (i := 19) (oi := ⟨some 22, _, _, _, _, none⟩) (v := ?_) rfl (by kernel_rfl) (by kernel_rfl) (by kernel_rfl) (fun _ _ _ h => h) (Or.inl ⟨by rfl, ?_⟩) (by assumption) ?_
  rotate_left
  · intro w hSw; go_simp; try with_reducible rfl
  try simp only [Act.put, List.setIfInBounds_toArray, List.set_cons_zero, List.set_cons_succ]
  refine wpAnyH_take (i := 20) (oi := ⟨some 23, .build 48 #[(0, .tmp 6), (1, .tmp 10), (2, .tmp 14), (3, .tmp 18), (4, .tmp 22)], _, _, _, none⟩) (v := _) rfl (by kernel_rfl) (by kernel_rfl) (by kernel_rfl) (fun _ _ _ h => h) (y_bld (by rfl) 48 [(0, .tmp 6), (1, .tmp 10), (2, .tmp 14), (3, .tmp 18), (4, .tmp 22)] (by rfl) [(0, .agg #[.pointer (some ⟨g, 0, none⟩), .int .i64 1, .int .i64 1, .int .i64 12]), (1, .agg #[.pointer (some ⟨g, 1, none⟩), .int .i64 1, .int .i64 0, .int .i64 15]), (2, .agg #[.pointer (some ⟨g, 2, none⟩), .int .i64 2, .int .i64 0, .int .i64 60]), (3, .agg #[.pointer (some ⟨g, 3, none⟩), .int .i64 2, .int .i64 0, .int .i64 40]), (4, .agg #[.pointer (some ⟨g, 4, none⟩), .int .i64 2, .int .i64 0, .int .i64 60])] (by rfl) (hb48 g)) (by assumption) ?_
  try simp only [Act.put, List.setIfInBounds_toArray, List.set_cons_zero, List.set_cons_succ]
  refine wpAnyH_ready (rs := [21]) (by kernel_rfl) (by simp) ?_
  refine AllReadyH.cons (o := ⟨none, .store 48 (.tmp 2) (.tmp 23), _, _, _, none⟩) rfl (fun K hK => ?_) AllReadyH.nil
  refine step_st 48 (.tmp 2) (.tmp 23) (by rfl) (by rfl) (by rfl) (f := 0) (by rfl) (l := fV g) (by rfl) hz.drew (by simp [fV, fE, zFs, zF]) sizeFs (one_fV g) ?_
  intro w10 hz10 hG10
  refine hK.out _ _ (trivial) (fun hHeld => ?_)
  clear hK K
  try simp only [Act.put, List.setIfInBounds_toArray, List.set_cons_zero, List.set_cons_succ]
  refine wpAnyH_done (by kernel_rfl) ?_ _
  refine NoPanic.normal ?_
  rw [show zFs.take 0 ++ fV g ++ zFs.drop (0 + (fV g).length) = fV g from rfl] at hz10
  go_wp2
  refine ret_cell rfl rfl hz10.whole Try.underlying48 rfl sizeFs rfl ?_
  exact ⟨rfl, hB.drew.grown hG10 hB.size (by intro k hk; injection hk with hk; omega)⟩
theorem wpsz_any (n : Nat) (w : World) (hn : n < 9223372036854775808) :
    Calls Try.prog 23 #[.int .i64 (n : Int)] w fun e w' => e = .returned (.int .i64 (psz n : Int)) ∧ Below w.heap.size w w' := by
  have hw0 : IntKind.u64.wrap (n : Int) = (n : Int) := by rw [IntKind.wrap_u64]; omega
  have hp := psz_bd n
  go_enter Try.func23, Try.ntmps23
  go_wp2_with (fail)
  refine (putp_any (.slice none 0 0) [] n nob _ (Rd.nil _ _) (by omega) (by simp)).mono ?_
  rintro e w1 ⟨v1, rfl, ho1, hB1⟩
  rw [List.nil_append, length_packed] at ho1
  obtain ⟨A1, c1, rfl⟩ := own_shape ho1
  go_wp2
  go_ret
  exact ⟨rfl, hB1⟩
theorem tsz_any (v : Value) (t : List UInt8) (F : Nat → Prop) (w : World) (hv : Rd w F v (bys t)) (hn : t.length ≤ 1000000) :
    Calls Try.prog 22 #[v] w fun e w' => e = .returned (.int .i64 ((tb1 t).length : Int)) ∧ Below w.heap.size w w' := by
  obtain ⟨A, c, rfl⟩ := hv.shape
  have hp := psz_bd t.length
  have hl : (tb1 t).length = psz t.length + t.length := by unfold tb1; rw [List.length_append, length_packed]
  have hw : IntKind.i64.wrap ((psz t.length : Int) + (t.length : Int)) = (psz t.length : Int) + (t.length : Int) := IntWalk.i64_in _ (by omega)
  go_enter Try.func22, Try.ntmps22
  go_wp2_with (fail)
  refine (wpsz_any t.length _ (by omega)).mono ?_
  rintro e w1 ⟨rfl, hB1⟩
  go_wp2
  go_ret
  exact ⟨by rw [hl]; simp, hB1⟩
set_option maxRecDepth 100000 in
set_option maxHeartbeats 2000000 in
theorem size8g_any (m : Mg) (ub up : Value) (F1 F2 : Nat → Prop) (w : World) (hh : m.h.length = 32) (hs : MgSm m) (hub : Rd w F1 ub (bys m.b)) (hup : Rd w F2 up (tx m.ps)) :
    Calls Try.prog 14 #[m.val ub up] w fun e w' => e = .returned (.int .i64 ((Mg.by m).length : Int)) ∧ Below w.heap.size w w' := by
  obtain ⟨hsb, hsp, hst⟩ := hs
  obtain ⟨AB, cb, rfl⟩ := hub.shape
  obtain ⟨AP, cpp, rfl, _, _⟩ := hup.slShape
  unfold Mg.val
  have hby := len_by2 hh
  have hpb := psz_bd m.b.length
  have hpp := psz_bd m.ps.length
  have htl : (tb1 m.b).length = psz m.b.length + m.b.length := by unfold tb1; rw [List.length_append, length_packed]
  obtain ⟨l, hl⟩ : ∃ l, l = m.l (.slice AB m.b.length cb) (.slice AP m.ps.length cpp) := ⟨_, rfl⟩
  have h37 : l[37]? = some (.slice AB m.b.length cb) := by rw [hl]; exact mg_body hh _ _
  have h38 : l[38]? = some (.slice AP m.ps.length cpp) := by rw [hl]; exact mg_parts hh _ _
  rw [← hl]
  clear hl
  have hvb := Blk.new' w 27 l
  have hB : Below w.heap.size w (w.alloc (.cells l.toArray 27)) := (Below.refl _ _).alloc (Nat.le_refl _) _
  have hub := hub.below hB
  have hup := hup.below hB
  go_enter Try.func14, Try.ntmps14
  go_wp2_with (fail)
  obtain ⟨w0, hw0⟩ : ∃ w0, w0 = w.alloc (.cells l.toArray 27) := ⟨_, rfl⟩
  rw [← hw0] at hvb hB hub hup ⊢
  clear hw0
  obtain ⟨g, hg⟩ : ∃ g, g = w.heap.size := ⟨_, rfl⟩
  rw [← hg] at hvb ⊢
  clear hg
  refine (fields_any g w0).mono ?_
  rintro e w1 ⟨rfl, hB1⟩
  go_wp2
  go_loopw [3, 9] (fun nv iv wr => ∃ i : Nat, i ≤ 5 ∧ iv = .int .i64 i ∧ nv = .int .i64 ((32 + soff i : Nat) : Int) ∧ Below w0.heap.size w0 wr) (fun _ i _ => 5 - (intOf i).toNat)
  case atStart => exact ⟨0, Nat.zero_le _, rfl, rfl, hB1⟩
  case round =>
    clear hB1
    obtain ⟨i, hi, rfl, rfl, hBr⟩ := hrel
    by_cases hlt : i < 5
    · have hI : (i : Int) < 5 := by omega
      have hss := soff_succ i hlt
      obtain ⟨N, hN⟩ : ∃ N, N = 32 + soff i := ⟨_, rfl⟩
      obtain ⟨s, hs⟩ : ∃ s, s = fsz i := ⟨_, rfl⟩
      have hNb : N ≤ 100 := by rw [hN]; unfold soff; split <;> omega
      have hsb : s ≤ 2 := by rw [hs]; unfold fsz; split <;> omega
      have hc1 : (fE g i)[1]? = some (.int .i64 (s : Int)) := by rw [hs]; rfl
      have hnx : 32 + soff (i + 1) = N + s := by omega
      rw [← hN]
      have Hnx := hid hnx
      have hwr : IntKind.i64.wrap ((N : Int) + (s : Int)) = (N : Int) + (s : Int) := IntWalk.i64_in _ (by omega)
      clear hN hs hnx hss
      go_wp2_with (first | refine wp_idxW 48 (.tmp 8) (.tmp 9) rfl rfl (l := fV g) rfl rfl Try.underlying48 hlt aggF sizeF1 ?_; rw [fV_at g i hlt] | refine wp_newst 47 5 (.tmp 11) rfl rfl rfl rfl rfl rfl zeroF1 (l := fE g i) rfl rfl sizeF1 (one_fE g i) (by simp [Act.put]) ?_; intro w2 hf2 hB2 hs2; refine wp_stop ?_)
      have d1 := hf2.cellAt 1 _ hc1
      have hB2 := hBr.trans (hB2.mono hBr.size)
      refine wp_go ?_
      go_wp2
      go_roundw
      case rel => exact ⟨i + 1, by omega, by go_num, by rw [Hnx.out]; simp, hB2⟩
      case measure => simp [intOf]; omega
    · have hi' : i = 5 := by omega
      subst hi'
      have hI : ¬ (5 : Int) < 5 := by omega
      go_upto_region 7 with (fail)
      rw [show 32 + soff 5 = 40 from rfl]
      obtain ⟨T, hT⟩ : ∃ T, T = (tb1 m.b).length := ⟨_, rfl⟩
      obtain ⟨P, hP⟩ : ∃ P, P = psz m.ps.length := ⟨_, rfl⟩
      have hTb : T ≤ 1000010 := by omega
      have hPb : P ≤ 10 := by omega
      have HT := hid hT
      have HP := hid hP
      have hw1 : IntKind.i64.wrap ((T : Int) + (P : Int)) = (T : Int) + (P : Int) := IntWalk.i64_in _ (by omega)
      have hw2 : IntKind.i64.wrap (40 + ((T : Int) + (P : Int))) = 40 + ((T : Int) + (P : Int)) := IntWalk.i64_in _ (by omega)
      have hvr := hvb.below hBr
      have hubr := hub.below hBr
      have hupr := hup.below hBr
      have HB : Hid (∀ W, Ch nob wr W → W.cell? ⟨g, 37, none⟩ = some (.slice AB m.b.length cb)) := fun W h => (hvr.ch h (fun h => h)).cellAt 37 _ h37
      have HQ : Hid (∀ W, Ch nob wr W → W.cell? ⟨g, 38, none⟩ = some (.slice AP m.ps.length cpp)) := fun W h => (hvr.ch h (fun h => h)).cellAt 38 _ h38
      have htz := fun W h => tsz_any (.slice AB m.b.length cb) m.b F1 W h hsb
      have hpz := fun W => wpsz_any m.ps.length W (by omega)
      rw [← hT] at htz
      rw [← hP] at hpz
      have Htz := hid htz
      have Hpz := hid hpz
      clear hT hP htz hpz
      refine wp_region_noPanic ?_
      refine wp_region_held_drew (S := Ch nob wr) (by kernel_rfl) ((Ch.refl _ _).drew) (fun hHeld => ?_)
      refine wpAnyH_take (i := 0) (oi := ⟨some 17, _, _, _, _, none⟩) (v := ?_) rfl (by kernel_rfl) (by kernel_rfl) (by kernel_rfl) (fun _ _ _ h => h) (Or.inl ⟨by rfl, ?_⟩) (by assumption) ?_
      rotate_left
      · intro w hSw; go_simp; try with_reducible rfl
      try simp only [Act.put, List.setIfInBounds_toArray, List.set_cons_zero, List.set_cons_succ]
      refine wpAnyH_take (i := 1) (oi := ⟨some 18, _, _, _, _, none⟩) (v := ?_) rfl (by kernel_rfl) (by kernel_rfl) (by kernel_rfl) (fun _ _ _ h => h) (Or.inl ⟨by rfl, ?_⟩) (by assumption) ?_
      rotate_left
      · intro w hSw; go_simp; try with_reducible rfl
      try simp only [Act.put, List.setIfInBounds_toArray, List.set_cons_zero, List.set_cons_succ]
      refine wpAnyH_take (i := 2) (oi := ⟨some 19, _, _, _, _, none⟩) (v := ?_) rfl (by kernel_rfl) (by kernel_rfl) (by kernel_rfl) (fun _ _ _ h => h) (Or.inl ⟨by rfl, ?_⟩) (by assumption) ?_
      rotate_left
      · intro w hSw; have hcw := HB.out w hSw; go_simp; try with_reducible rfl
      try simp only [Act.put, List.setIfInBounds_toArray, List.set_cons_zero, List.set_cons_succ]
      refine wpAnyH_take (i := 4) (oi := ⟨some 21, _, _, _, _, none⟩) (v := ?_) rfl (by kernel_rfl) (by kernel_rfl) (by kernel_rfl) (fun _ _ _ h => h) (Or.inl ⟨by rfl, ?_⟩) (by assumption) ?_
      rotate_left
      · intro w hSw; go_simp; try with_reducible rfl
      try simp only [Act.put, List.setIfInBounds_toArray, List.set_cons_zero, List.set_cons_succ]
      refine wpAnyH_take (i := 5) (oi := ⟨some 22, _, _, _, _, none⟩) (v := ?_) rfl (by kernel_rfl) (by kernel_rfl) (by kernel_rfl) (fun _ _ _ h => h) (Or.inl ⟨by rfl, ?_⟩) (by assumption) ?_
      rotate_left
      · intro w hSw; have hcw := HQ.out w hSw; go_simp; try with_reducible rfl
      try simp only [Act.put, List.setIfInBounds_toArray, List.set_cons_zero, List.set_cons_succ]
      refine wpAnyH_take (i := 6) (oi := ⟨some 23, _, _, _, _, none⟩) (v := ?_) rfl (by kernel_rfl) (by kernel_rfl) (by kernel_rfl) (fun _ _ _ h => h) (Or.inl ⟨by rfl, ?_⟩) (by assumption) ?_
      rotate_left
      · intro w hSw; go_simp; try with_reducible rfl
      try simp only [Act.put, List.setIfInBounds_toArray, List.set_cons_zero, List.set_cons_succ]
      refine wpAnyH_ready (rs := [3]) (by kernel_rfl) (by simp) ?_
      refine AllReadyH.cons (o := ⟨some 20, _, _, _, _, none⟩) rfl (fun K hK => ?_) AllReadyH.nil
      go_simp
      refine (Htz.out _ (hubr.ext hHeld)).mono ?_
      rintro e' w11 ⟨rfl, hB11⟩
      have hC11 := hHeld.belowR hB11
      refine hK.out _ _ (hC11) (fun hHeld => ?_)
      clear hK K
      try simp only [Act.put, List.setIfInBounds_toArray, List.set_cons_zero, List.set_cons_succ]
      refine wpAnyH_ready (rs := [7]) (by kernel_rfl) (by simp) ?_
      refine AllReadyH.cons (o := ⟨some 24, _, _, _, _, none⟩) rfl (fun K hK => ?_) AllReadyH.nil
      go_simp
      refine (Hpz.out _).mono ?_
      rintro e' w12 ⟨rfl, hB12⟩
      have hC12 := hC11.belowR hB12
      refine hK.out _ _ (hC12) (fun hHeld => ?_)
      clear hK K
      try simp only [Act.put, List.setIfInBounds_toArray, List.set_cons_zero, List.set_cons_succ]
      refine wpAnyH_take (i := 8) (oi := ⟨some 25, _, _, _, _, none⟩) (v := ?_) rfl (by kernel_rfl) (by kernel_rfl) (by kernel_rfl) (fun _ _ _ h => h) (Or.inl ⟨by rfl, ?_⟩) (by assumption) ?_
      rotate_left
      · intro w hSw; go_simp; try with_reducible rfl
      try simp only [Act.put, List.setIfInBounds_toArray, List.set_cons_zero, List.set_cons_succ]
      refine wpAnyH_take (i := 9) (oi := ⟨some 26, _, _, _, _, none⟩) (v := ?_) rfl (by kernel_rfl) (by kernel_rfl) (by kernel_rfl) (fun _ _ _ h => h) (Or.inl ⟨by rfl, ?_⟩) (by assumption) ?_
      rotate_left
      · intro w hSw; go_simp; try with_reducible rfl
      try simp only [Act.put, List.setIfInBounds_toArray, List.set_cons_zero, List.set_cons_succ]
      refine wpAnyH_take (i := 10) (oi := ⟨some 3, _, _, _, _, none⟩) (v := ?_) rfl (by kernel_rfl) (by kernel_rfl) (by kernel_rfl) (fun _ _ _ h => h) (Or.inl ⟨by rfl, ?_⟩) (by assumption) ?_
      rotate_left
      · intro w hSw; go_simp; try with_reducible rfl
      try simp only [Act.put, List.setIfInBounds_toArray, List.set_cons_zero, List.set_cons_succ]
      refine wpAnyH_done (by kernel_rfl) ?_ _
      refine NoPanic.normal ?_
      have hB2 := hBr.trans (hC12.below.mono hBr.size)
      obtain ⟨N, hN⟩ : ∃ N, N = 40 + (T + P) := ⟨_, rfl⟩
      rw [show (40 : Int) + ((T : Int) + (P : Int)) = (N : Int) from by omega]
      have Hby : Hid ((Mg.by m).length = N + (m.ps.flatMap tb1).length) := by show _ = _; rw [hN, HT.out, HP.out]; omega
      have hNb : N ≤ 2000000 := by omega
      have c38 := (hvb.below hB2).cellAt 38 _ h38
      clear hw1 hw2 HB HQ Htz Hpz hN HT HP hTb hPb hvr hubr hupr hBr hC11 hC12 hHeld
      go_wp2
      clear c38
      go_loopw [3, 30] (fun nv iv wr => ∃ i : Nat, i ≤ m.ps.length ∧ iv = .int .i64 i ∧ nv = .int .i64 ((N + ((m.ps.take i).flatMap tb1).length : Nat) : Int) ∧ Below w0.heap.size w0 wr) (fun _ i _ => m.ps.length - (intOf i).toNat)
      case atStart => exact ⟨0, Nat.zero_le _, rfl, by rw [List.take_zero, List.flatMap_nil]; rfl, hB2⟩
      case round =>
        clear hB2
        obtain ⟨i, hi, rfl, rfl, hBr⟩ := hrel
        by_cases hlt : i < m.ps.length
        · obtain ⟨t, ht⟩ : ∃ t, m.ps[i]? = some t := ⟨_, List.getElem?_eq_getElem hlt⟩
          have hI : (i : Int) < (m.ps.length : Int) := by omega
          obtain ⟨G, off, u, rfl, hG, hcu, hu⟩ := Rd.elem (hup.below hBr) i (bys t) (by rw [List.getElem?_map, ht]; rfl)
          obtain ⟨A1, c1, rfl⟩ := hu.shape
          have htl := hst t (List.mem_of_getElem? ht)
          have hlf := len_partsG (m.ps.take i) (fun x hx => hst x (List.mem_of_mem_take hx))
          rw [List.length_take] at hlf
          obtain ⟨Z, hZ⟩ : ∃ Z, Z = N + ((m.ps.take i).flatMap tb1).length := ⟨_, rfl⟩
          obtain ⟨s, hs⟩ : ∃ s, s = (tb1 t).length := ⟨_, rfl⟩
          have hsl : s ≤ 1000010 := by have := psz_bd t.length; rw [hs]; unfold tb1; rw [List.length_append, length_packed]; omega
          have hZb : Z ≤ 1100000000 := by rw [hZ]; omega
          have hnx : N + ((m.ps.take (i + 1)).flatMap tb1).length = Z + s := by rw [take_snocT ht, List.flatMap_append, List.flatMap_singleton, List.length_append, hZ, hs]; omega
          rw [← hZ]
          have htz := tsz_any _ t _ _ hu (by omega)
          rw [← hs] at htz
          have Hnx := hid hnx
          have Htz := hid htz
          have hwr : IntKind.i64.wrap ((Z : Int) + (s : Int)) = (Z : Int) + (s : Int) := IntWalk.i64_in _ (by omega)
          clear hZ hs hnx htz hlf ht
          go_wp2_with (fail)
          refine Htz.out.mono ?_
          rintro e w2 ⟨rfl, hB2⟩
          have hB2 := hBr.trans (hB2.mono hBr.size)
          go_wp2
          go_roundw
          case rel => exact ⟨i + 1, by omega, by go_num, by rw [Hnx.out]; simp, hB2⟩
          case measure => simp [intOf]; omega
        · have hi' : i = m.ps.length := by omega
          subst hi'
          have hI : ¬ (m.ps.length : Int) < (m.ps.length : Int) := by omega
          rw [List.take_length, ← Hby.out]
          go_wp2
          go_ret
          exact ⟨rfl, hB.trans (hBr.mono hB.size)⟩
theorem size8_any (m : Mg) (ub up : Value) (F1 F2 : Nat → Prop) (w : World) (hm : MgIn m) (hlo : longB m = false) (hub : Rd w F1 ub (bys m.b)) (hup : Rd w F2 up (tx m.ps)) :
    Calls Try.prog 14 #[m.val ub up] w fun e w' => e = .returned (.int .i64 ((Mg.by m).length : Int)) ∧ Below w.heap.size w w' := by
  obtain ⟨h1, h2, h3⟩ := long_bd hlo
  exact size8g_any m ub up F1 F2 w hm.h ⟨by omega, by omega, fun t ht => by have := h3 t ht; omega⟩ hub hup
end Go.Proofs.Ythejallmkcohpaa
