/- D1: layer 10: the document's without, with. -/
import Derived.Test.YtjaiffefgjopmaaD0
namespace Go.V
open Go.RowKit
theorem wo_snoc (l : List Fl) (f : Fl) (n : ByteArray) : woF (l ++ [f]) n = if f.n = n then woF l n else woF l n ++ [f] := by
  unfold woF
  rw [List.filter_append]
  by_cases h : f.n = n
  · rw [if_pos h]; simp [h]
  · rw [if_neg h]; simp [h]
theorem wi_snoc (l : List Fl) (f : Fl) (n : ByteArray) (b : List UInt8) : wiF (l ++ [f]) n b = wiS n b (wiF l n b) f := by
  unfold wiF
  rw [List.foldl_append]
  rfl
theorem wo_len (l : List Fl) (n : ByteArray) : (woF l n).length ≤ l.length := List.length_filter_le _ _
def wiN (st : List Fl × Bool) : Nat := st.1.length + (if st.2 = true then 0 else 1)
theorem wiS_len (n : ByteArray) (b : List UInt8) (st : List Fl × Bool) (f : Fl) : wiN (wiS n b st f) ≤ wiN st + 1 := by
  unfold wiS wiN
  split
  · omega
  · split
    · rename_i h
      simp [h.1]
    · simp only [List.length_append, List.length_singleton]
      omega
theorem wi_len (n : ByteArray) (b : List UInt8) : ∀ (l : List Fl) (st : List Fl × Bool), wiN (l.foldl (wiS n b) st) ≤ wiN st + l.length
  | [], _ => Nat.le_refl _
  | f :: l, st => by
    have h := wi_len n b l (wiS n b st f)
    have h2 := wiS_len n b st f
    rw [List.foldl_cons, List.length_cons]
    omega
theorem wiF_N (l : List Fl) (n : ByteArray) (b : List UInt8) : wiN (wiF l n b) ≤ l.length + 1 := by
  have := wi_len n b l ([], false)
  unfold wiF
  have h : wiN (([] : List Fl), false) = 1 := rfl
  omega
theorem wiF_len (l : List Fl) (n : ByteArray) (b : List UInt8) : (wiF l n b).1.length ≤ l.length + 1 := by
  have := wiF_N l n b
  unfold wiN at this
  omega
theorem with_len (l : List Fl) (n : ByteArray) (b : List UInt8) : (withF l n b).length ≤ l.length + 1 := by
  have h := wiF_N l n b
  unfold wiN at h
  unfold withF
  split
  · omega
  · rename_i hq
    rw [if_neg hq] at h
    rw [List.length_append, List.length_singleton]
    omega
theorem wp_ixag {P : Program} {w : World} {ops : Array Oper} {rest : List Oper} {o : Oper} {a : Act} {Q : Exit → Act → World → Prop} (t : TypeId) (x y : Operand) (hw : Region.wanted o (yielded ops a.tmps) = true) (ho : o.op = .indexAddr t x y) {g off n c : Nat} (hx : a.eval x = .slice (some ⟨g, off, none⟩) n c) {i : Nat} (hy : a.eval y = .int .i64 (i : Int))
    {e : TypeId} (hu : P.underlying t = some (.slice e)) (hi : i < n) {s : Nat} (hsz : (P.info? e).map (·.size) = some s)
    (h : wpList P ops Q rest (a.put o.dst (.pointer (some ⟨g, off + i * s, none⟩))) w) : wpList P ops Q (o :: rest) a w := by
  refine wpList_step fun K hK => ?_
  rw [if_pos hw]
  cases hq : P.info? e with
  | none => simp [hq] at hsz
  | some f =>
    have hs : f.size = s := by simpa [hq] using hsz
    have h1 : (0 : Int) ≤ (i : Int) ∧ (i : Int) < (n : Int) := by omega
    have hr : (Instr.indexAt t (.slice (some ⟨g, off, none⟩) n c) (.int .i64 (i : Int))).run P w = .ok (.pointer (some ⟨g, off + i * s, none⟩)) w := by
      simp [Instr.indexAt, asIntOf, run_underlying hu, sizeOf, typeInfo, hq, hs, h1, add_mk]
      intro hh
      exact absurd hh (by omega)
    unfold Oper.wp execOp
    simp only [ho, hx, hy, Sem.run_bind, Sem.run_pure, hr, Result.andThen_ok]
    exact hK _ _ h
end Go.V
namespace Go.Proofs.Ytjaiffefgjopmaa
open Go.RowKit Go.V
set_option maxRecDepth 100000 in
set_option maxHeartbeats 2000000 in
theorem without_any (l : List Fl) (n : ByteArray) (vl : Value) (F : Nat → Prop) (w : World) (hl : Rd w F vl (wds flD l)) (hn : l.length ≤ 1000000) :
    Calls Try.prog 48 #[vl, .string n] w fun e w' => ∃ v', e = .returned v' ∧ Rd w' (fun b => F b ∨ w.heap.size ≤ b) v' (wds flD (woF l n)) ∧ Below w.heap.size w w' := by
  have hl := hl.weak (F' := fun b => F b ∧ b < w.heap.size) (fun b hb h => ⟨h, hb⟩)
  obtain ⟨A, c, rfl, _, _⟩ := wds_shape hl
  go_enter Try.func48, Try.ntmps48
  go_wp2
  go_loopw [5, 6] (fun ov iv wr => ∃ (i : Nat) (xs : List Value), i ≤ l.length ∧ iv = .int .i64 i ∧ wr.ownsRow w.heap.size 70 2 ov (woF (l.take i) n).length xs ∧ WdX wr (fun b => F b ∧ b < w.heap.size) flD (woF (l.take i) n) xs ∧ Below w.heap.size w wr) (fun _ i _ => l.length - (intOf i).toNat)
  case atStart => exact ⟨0, [], Nat.zero_le _, rfl, World.ownsRow_nil _ _ _ _, rfl, Below.refl _ _⟩
  case round =>
    obtain ⟨i, xs, hi, rfl, hro, hx, hB⟩ := hrel
    by_cases hlt : i < l.length
    · obtain ⟨f, hf⟩ : ∃ f, l[i]? = some f := ⟨_, List.getElem?_eq_getElem hlt⟩
      have hI : (i : Int) < (l.length : Int) := by omega
      obtain ⟨g, off, cs, rfl, hg, hr, he⟩ := wd_el (hl.below hB) hf
      obtain ⟨u, rfl, hu⟩ := fl_open he
      obtain ⟨Au, cu, rfl⟩ := hu.shape
      have c0 : wr.cell? ⟨g, off + i * 2, none⟩ = some (.string f.n) := hr 0 _ rfl
      have c1 : wr.cell? ⟨g, off + i * 2 + 1, none⟩ = some (.slice Au f.b.length cu) := hr 1 _ rfl
      have hsn := wo_snoc (l.take i) f n
      rw [← take_snocF hf] at hsn
      have hwl := wo_len (l.take i) n
      rw [List.length_take] at hwl
      obtain ⟨L, hL⟩ : ∃ L, L = woF (l.take i) n := ⟨_, rfl⟩
      rw [← hL] at hro hx hsn hwl
      clear hf he hr hL
      by_cases hq : f.n = n
      · have hb : (f.n.toList == n.toList) = true := (Go.Lib.bytes_beq_iff _ _).2 hq
        rw [if_pos hq] at hsn
        have Hsn := hid hsn
        clear hq hsn
        go_wp2_with (first | refine wp_ixa 40 (.tmp 13) (.tmp 14) rfl rfl rfl rfl Try.underlying40 hlt sizeFl ?_)
        go_roundw
        case rel => exact ⟨i + 1, xs, by omega, by go_num, by rw [Hsn.out]; exact hro, by rw [Hsn.out]; exact hx, hB⟩
        case measure => simp [intOf]; omega
      · have hb : (f.n.toList == n.toList) = false := (Go.Lib.bytes_beq_false_iff _ _).2 hq
        rw [if_neg hq] at hsn
        have Hsn := hid hsn
        clear hq hsn
        go_wp2_with (first | refine wp_ixa 40 (.tmp 13) (.tmp 14) rfl rfl rfl rfl Try.underlying40 hlt sizeFl ?_ | refine wp_ixa 40 (.tmp 21) (.tmp 22) rfl rfl rfl rfl Try.underlying40 hlt sizeFl ?_ | refine wp_pushW (.tmp 20) (.tmp 24) 25 slFl rfl rfl rfl rfl rfl (us := f.l (.slice Au f.b.length cu)) rfl rfl (one_fl f _ _ _) (by simp [Act.put]) rfl hro (by simp only [maxLen]; omega) (by omega) hB.size ?_; intro v4 w4 ho4 hG4 _; refine wp_stop ?_)
        have hB4 := hB.grown hG4 hB.size (fun k hk => (hro.lt k hk).1)
        have hx4 := (hx.keep (F' := fun b => F b ∧ b < w.heap.size) (fun b hb hF => ⟨hF, hG4.block b hb (fun e => by have := (hro.lt b e.symm).1; omega)⟩)).snoc (fl_mk (hu.keep (F' := fun b => F b ∧ b < w.heap.size) (fun b hb hF => ⟨hF, hG4.block b hb (fun e => by have := (hro.lt b e.symm).1; omega)⟩)))
        refine wp_go ?_
        go_wp2
        go_roundw
        case rel => exact ⟨i + 1, _, by omega, by go_num, by rw [Hsn.out, List.length_append]; exact ho4, by rw [Hsn.out]; exact hx4, hB4⟩
        case measure => simp [intOf]; omega
    · have hi' : i = l.length := by omega
      subst hi'
      have hI : ¬ (l.length : Int) < (l.length : Int) := by omega
      rw [List.take_length] at hro hx
      go_wp2
      go_ret
      exact ⟨_, rfl, wds_own hro hx (fun b h => .inl h.1) (fun b h => .inr (hro.lt b h).1), hB⟩
set_option maxRecDepth 100000 in
set_option maxHeartbeats 4000000 in
theorem with_any (l : List Fl) (n : ByteArray) (b : List UInt8) (vl vb : Value) (F : Nat → Prop) (w : World) (hl : Rd w F vl (wds flD l)) (hv : Rd w F vb (bys b)) (hn : l.length ≤ 1000000) :
    Calls Try.prog 46 #[vl, .string n, vb] w fun e w' => ∃ v', e = .returned v' ∧ Rd w' (fun b => F b ∨ w.heap.size ≤ b) v' (wds flD (withF l n b)) ∧ Below w.heap.size w w' := by
  have hgt : ∀ (t : TypeId) (x y : ByteArray), binOp .gtr t (.string x) (.string y) = pure (.bool (gtS x y)) := fun t x y => by simp [binOp, Op.stringOp, gtS]
  have hbl : ∀ (A : Option Addr) (k c : Nat) (W : World), (Instr.build 70 #[(0, .string n), (1, .slice A k c)]).run Try.prog W = .ok (.agg #[.string n, .slice A k c]) W := fun _ _ _ _ => by kernel_rfl
  have hl := hl.weak (F' := fun b => F b ∧ b < w.heap.size) (fun b hb h => ⟨h, hb⟩)
  have hv := hv.weak (F' := fun b => F b ∧ b < w.heap.size) (fun b hb h => ⟨h, hb⟩)
  obtain ⟨A, c, rfl, _, _⟩ := wds_shape hl
  obtain ⟨Ab, cb, rfl⟩ := hv.shape
  go_enter Try.func46, Try.ntmps46
  go_wp2
  go_loopw [7, 8, 9] (fun ov pv iv wr => ∃ (i : Nat) (L : List Fl) (p : Bool) (xs : List Value), i ≤ l.length ∧ iv = .int .i64 i ∧ pv = .bool p ∧ Hid (wiF (l.take i) n b = (L, p)) ∧ wr.ownsRow w.heap.size 70 2 ov L.length xs ∧ WdX wr (fun b => F b ∧ b < w.heap.size) flD L xs ∧ Below w.heap.size w wr) (fun _ _ i _ => l.length - (intOf i).toNat)
  case atStart => exact ⟨0, [], false, [], Nat.zero_le _, rfl, rfl, rfl, World.ownsRow_nil _ _ _ _, rfl, Below.refl _ _⟩
  case round =>
    obtain ⟨i, L, p, xs, hi, rfl, rfl, hwi, hro, hx, hB⟩ := hrel
    have hLl : L.length ≤ l.length + 1 := by
      have := wiF_len (l.take i) n b
      rw [hwi.out, List.length_take] at this
      simp at this
      omega
    by_cases hlt : i < l.length
    · obtain ⟨f, hf⟩ : ∃ f, l[i]? = some f := ⟨_, List.getElem?_eq_getElem hlt⟩
      have hI : (i : Int) < (l.length : Int) := by omega
      obtain ⟨g, off, cs, rfl, hg, hr, he⟩ := wd_el (hl.below hB) hf
      obtain ⟨u, rfl, hu⟩ := fl_open he
      obtain ⟨Au, cu, rfl⟩ := hu.shape
      have c0 : wr.cell? ⟨g, off + i * 2, none⟩ = some (.string f.n) := hr 0 _ rfl
      have c1 : wr.cell? ⟨g, off + i * 2 + 1, none⟩ = some (.slice Au f.b.length cu) := hr 1 _ rfl
      have hsn := wi_snoc (l.take i) f n b
      rw [← take_snocF hf, hwi.out] at hsn
      unfold wiS at hsn
      have hvr := hv.below hB
      clear hf he hr hwi
      by_cases hq : f.n = n
      · have hb : (f.n.toList == n.toList) = true := (Go.Lib.bytes_beq_iff _ _).2 hq
        rw [if_pos hq] at hsn
        have Hsn := hid hsn
        clear hq hsn
        go_wp2_with (first | refine wp_ixa 40 (.tmp 16) (.tmp 17) rfl rfl rfl rfl Try.underlying40 hlt sizeFl ?_)
        go_roundw
        case rel => exact ⟨i + 1, L, p, xs, by omega, by go_num, rfl, Hsn, hro, hx, hB⟩
        case measure => simp [intOf]; omega
      · have hb : (f.n.toList == n.toList) = false := (Go.Lib.bytes_beq_false_iff _ _).2 hq
        rw [if_neg hq] at hsn
        clear hq
        by_cases hp : p = false ∧ gtS f.n n = true
        · obtain ⟨rfl, hg1⟩ := hp
          rw [if_pos ⟨rfl, hg1⟩] at hsn
          have Hsn := hid hsn
          clear hsn
          go_wp2_with (first | refine wp_ixa 40 (.tmp 16) (.tmp 17) rfl rfl rfl rfl Try.underlying40 hlt sizeFl ?_ | refine wp_ixag 40 (.tmp 26) (.tmp 27) (by rfl) rfl rfl rfl Try.underlying40 hlt sizeFl ?_ | refine wp_pushW (.tmp 34) (.tmp 37) 38 slFl rfl rfl rfl rfl rfl (us := Fl.l ⟨n, b⟩ (.slice Ab b.length cb)) rfl rfl (one_fl ⟨n, b⟩ _ _ _) (by simp [Act.put]) rfl hro (by simp only [maxLen]; omega) (by omega) hB.size ?_; intro v4 w4 ho4 hG4 _; refine wp_stop ?_)
          have hB4 := hB.grown hG4 hB.size (fun k hk => (hro.lt k hk).1)
          have hkp : ∀ b, b < wr.heap.size → (F b ∧ b < w.heap.size) → (F b ∧ b < w.heap.size) ∧ w4.heap[b]? = wr.heap[b]? := fun b hb hF => ⟨hF, hG4.block b hb (fun e => by have := (hro.lt b e.symm).1; omega)⟩
          have hx4 := (hx.keep hkp).snoc (fl_mk (f := ⟨n, b⟩) (hvr.keep hkp))
          have hu4 := hu.keep hkp
          have c04 : w4.cell? ⟨g, off + i * 2, none⟩ = some (.string f.n) := by rw [← c0]; exact World.cell?_of_block (hG4.block g (lt_of_cell c0) (fun e => by have := (hro.lt g e.symm).1; have := hg.2; omega))
          have c14 : w4.cell? ⟨g, off + i * 2 + 1, none⟩ = some (.slice Au f.b.length cu) := by rw [← c1]; exact World.cell?_of_block (hG4.block g (lt_of_cell c0) (fun e => by have := (hro.lt g e.symm).1; have := hg.2; omega))
          rw [show L.length + 1 = (L ++ [(⟨n, b⟩ : Fl)]).length from by rw [List.length_append]; rfl] at ho4
          clear c0 c1 hro hx hu hvr hG4
          obtain ⟨L4, hL4⟩ : ∃ L4, L4 = L ++ [⟨n, b⟩] := ⟨_, rfl⟩
          have hL4l : L4.length ≤ l.length + 2 := by rw [hL4, List.length_append, List.length_singleton]; omega
          have hsn2 : wiF (l.take (i + 1)) n b = (L4 ++ [f], true) := by rw [Hsn.out, hL4, List.append_assoc]; rfl
          rw [← hL4] at ho4 hx4
          have Hsn2 := hid hsn2
          clear hL4 hsn2
          refine wp_go ?_
          go_wp2_with (first | refine wp_ixa 40 (.tmp 41) (.tmp 42) rfl rfl rfl rfl Try.underlying40 hlt sizeFl ?_ | refine wp_pushW (.tmp 40) (.tmp 44) 45 slFl rfl rfl rfl rfl rfl (us := f.l (.slice Au f.b.length cu)) rfl rfl (one_fl f _ _ _) (by simp [Act.put]) rfl ho4 (by simp only [maxLen]; omega) (by omega) hB4.size ?_; intro v5 w5 ho5 hG5 _; refine wp_stop ?_)
          have hB5 := hB4.grown hG5 hB4.size (fun k hk => (ho4.lt k hk).1)
          have hkp5 : ∀ b, b < w4.heap.size → (F b ∧ b < w.heap.size) → (F b ∧ b < w.heap.size) ∧ w5.heap[b]? = w4.heap[b]? := fun b hb hF => ⟨hF, hG5.block b hb (fun e => by have := (ho4.lt b e.symm).1; omega)⟩
          have hx5 := (hx4.keep hkp5).snoc (fl_mk (hu4.keep hkp5))
          refine wp_go ?_
          go_wp2
          go_roundw
          case rel => exact ⟨i + 1, _, true, _, by omega, by go_num, rfl, Hsn2, by rw [List.length_append]; exact ho5, hx5, hB5⟩
          case measure => simp [intOf]; omega
        · rw [if_neg hp] at hsn
          have Hsn := hid hsn
          clear hsn
          cases p with
          | true =>
            clear hp
            go_wp2_with (first | refine wp_ixa 40 (.tmp 16) (.tmp 17) rfl rfl rfl rfl Try.underlying40 hlt sizeFl ?_ | refine wp_ixa 40 (.tmp 41) (.tmp 42) rfl rfl rfl rfl Try.underlying40 hlt sizeFl ?_ | refine wp_pushW (.tmp 40) (.tmp 44) 45 slFl rfl rfl rfl rfl rfl (us := f.l (.slice Au f.b.length cu)) rfl rfl (one_fl f _ _ _) (by simp [Act.put]) rfl hro (by simp only [maxLen]; omega) (by omega) hB.size ?_; intro v4 w4 ho4 hG4 _; refine wp_stop ?_)
            have hB4 := hB.grown hG4 hB.size (fun k hk => (hro.lt k hk).1)
            have hkp : ∀ b, b < wr.heap.size → (F b ∧ b < w.heap.size) → (F b ∧ b < w.heap.size) ∧ w4.heap[b]? = wr.heap[b]? := fun b hb hF => ⟨hF, hG4.block b hb (fun e => by have := (hro.lt b e.symm).1; omega)⟩
            have hx4 := (hx.keep hkp).snoc (fl_mk (hu.keep hkp))
            refine wp_go ?_
            go_wp2
            go_roundw
            case rel => exact ⟨i + 1, _, _, _, by omega, by go_num, rfl, Hsn, by rw [List.length_append]; exact ho4, hx4, hB4⟩
            case measure => simp [intOf]; omega
          | false =>
            have hg1 : gtS f.n n = false := by
              cases h : gtS f.n n with
              | false => rfl
              | true => exact absurd ⟨rfl, h⟩ hp
            clear hp
            go_wp2_with (first | refine wp_ixa 40 (.tmp 16) (.tmp 17) rfl rfl rfl rfl Try.underlying40 hlt sizeFl ?_ | refine wp_ixag 40 (.tmp 26) (.tmp 27) (by rfl) rfl rfl rfl Try.underlying40 hlt sizeFl ?_ | refine wp_ixa 40 (.tmp 41) (.tmp 42) rfl rfl rfl rfl Try.underlying40 hlt sizeFl ?_ | refine wp_pushW (.tmp 40) (.tmp 44) 45 slFl rfl rfl rfl rfl rfl (us := f.l (.slice Au f.b.length cu)) rfl rfl (one_fl f _ _ _) (by simp [Act.put]) rfl hro (by simp only [maxLen]; omega) (by omega) hB.size ?_; intro v4 w4 ho4 hG4 _; refine wp_stop ?_)
            have hB4 := hB.grown hG4 hB.size (fun k hk => (hro.lt k hk).1)
            have hkp : ∀ b, b < wr.heap.size → (F b ∧ b < w.heap.size) → (F b ∧ b < w.heap.size) ∧ w4.heap[b]? = wr.heap[b]? := fun b hb hF => ⟨hF, hG4.block b hb (fun e => by have := (hro.lt b e.symm).1; omega)⟩
            have hx4 := (hx.keep hkp).snoc (fl_mk (hu.keep hkp))
            refine wp_go ?_
            go_wp2
            go_roundw
            case rel => exact ⟨i + 1, _, _, _, by omega, by go_num, rfl, Hsn, by rw [List.length_append]; exact ho4, hx4, hB4⟩
            case measure => simp [intOf]; omega
    · have hi' : i = l.length := by omega
      subst hi'
      have hI : ¬ (l.length : Int) < (l.length : Int) := by omega
      rw [List.take_length] at hwi
      have hvr := hv.below hB
      cases p with
      | true =>
        have hwf : Hid (withF l n b = L) := by show _ = _; unfold withF; rw [hwi.out]; rfl
        go_wp2
        go_ret
        exact ⟨_, rfl, by rw [hwf.out]; exact wds_own hro hx (fun b h => .inl h.1) (fun b h => .inr (hro.lt b h).1), hB⟩
      | false =>
        have hwf : Hid (withF l n b = L ++ [⟨n, b⟩]) := by show _ = _; unfold withF; rw [hwi.out]; rfl
        go_wp2_with (first | refine wp_pushW (.tmp 49) (.tmp 52) 53 slFl rfl rfl rfl rfl rfl (us := Fl.l ⟨n, b⟩ (.slice Ab b.length cb)) rfl rfl (one_fl ⟨n, b⟩ _ _ _) (by simp) rfl hro (by simp only [maxLen]; omega) (by omega) hB.size ?_; intro v4 w4 ho4 hG4 _; refine wp_stop ?_)
        have hB4 := hB.grown hG4 hB.size (fun k hk => (hro.lt k hk).1)
        have hkp : ∀ b, b < wr.heap.size → (F b ∧ b < w.heap.size) → (F b ∧ b < w.heap.size) ∧ w4.heap[b]? = wr.heap[b]? := fun b hb hF => ⟨hF, hG4.block b hb (fun e => by have := (hro.lt b e.symm).1; omega)⟩
        have hx4 := (hx.keep hkp).snoc (fl_mk (f := ⟨n, b⟩) (hvr.keep hkp))
        rw [show L.length + 1 = (L ++ [(⟨n, b⟩ : Fl)]).length from by rw [List.length_append]; rfl] at ho4
        refine wp_go ?_
        go_wp2
        go_ret
        exact ⟨_, rfl, by rw [hwf.out]; exact wds_own ho4 hx4 (fun b h => .inl h.1) (fun b h => .inr (ho4.lt b h).1), hB4⟩
end Go.Proofs.Ytjaiffefgjopmaa
