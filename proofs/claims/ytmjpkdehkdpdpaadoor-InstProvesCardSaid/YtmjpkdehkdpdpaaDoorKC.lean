/- KC: several texts in one (NF NI KC). -/
import Derived.Test.YtmjpkdehkdpdpaaDoorNG
import Derived.Lib.MinMax
import Derived.Test.YtmjpkdehkdpdpaaDoorNH
import Derived.Test.YtmjpkdehkdpdpaaDoorCz
/- NF: layer 18: contract of an instance's winner. -/
namespace Go.Proofs.YtmjpkdehkdpdpaaDoor
open Go.RowKit Go.V Go.Maps
/-- what a walk has found, in memory -/
def blO (k : Int) : Option (Int × List UInt8) → List Value
  | none => zBl
  | some x => csB k x.1 x.2
/-- a word that is kept: for what, of whom -/
def KyOK (f : KyG Tryd.prog 72 × Nat) : Prop := ∃ (k r : Int) (h : List UInt8), in64w k ∧ in64w r ∧ h.length = 32 ∧ f.1 = kyB k r h ∧ f.2 < 65536
theorem BR.ok {L : List Nv} {B : List (KyG Tryd.prog 72 × Nat)} (h : BR L B) (hu : (B.map (·.1)).Nodup) : ∀ f ∈ B, KyOK f := fun f hf => by
  obtain ⟨k, r, d, hk, hr, hd, he⟩ := h.ks f hf
  refine ⟨k, r, d, hk, hr, hd, he, ?_⟩
  have h1 := h.lt hk hr hd
  rw [← he, findS_uq hu hf] at h1
  exact h1
theorem blO_len {V : Vc} {k lo hi : Int} {D : List (KyG Tryd.prog 72 × Nat)} {o : Option (Int × List UInt8)} (h : Best V k lo hi D o) : (blO k o).length = 34 := by
  cases o with
  | none => simp [blO, zBl, csB, bvs]
  | some x => exact len_csB h.2.1
theorem blO_one (k : Int) (o : Option (Int × List UInt8)) : ∀ v ∈ blO k o, v.oneCell' = true := by
  cases o with
  | none => exact one_csB _ _ _
  | some x => exact one_csB _ _ _
theorem stepB_no {V : Vc} {k lo hi : Int} {o : Option (Int × List UInt8)} {k' r' : Int} {d' : List UInt8} {S : Nat} (h : ¬ ((k' = k ∧ lo ≤ r' ∧ r' ≤ hi) ∧ qOK V S = true ∧ (∀ x, o = some x → r' < x.1))) : stepB V k lo hi o k' r' d' S = o := if_neg h
theorem stepB_yes {V : Vc} {k lo hi : Int} {o : Option (Int × List UInt8)} {k' r' : Int} {d' : List UInt8} {S : Nat} (h : (k' = k ∧ lo ≤ r' ∧ r' ≤ hi) ∧ qOK V S = true ∧ (∀ x, o = some x → r' < x.1)) : stepB V k lo hi o k' r' d' S = some (r', d') := if_pos h
set_option maxRecDepth 100000 in
set_option maxHeartbeats 8000000 in
theorem winner18_any (p b0 b1 b2 : Nat) (uk : Value) (V : Vc) (slot : Int) (B : List (KyG Tryd.prog 72 × Nat)) (k lo hi : Int) (w : World) (hb : Blk w p 65 (iC uk V slot b0 b1 b2)) (hV : V.m < 65536) (hM : MpS sM w nob b2 B) (hB : ∀ f ∈ B, KyOK f) (hk : in64w k) :
    Calls Tryd.prog 22 #[.pointer (some ⟨p, 0, none⟩), .int .i64 k, .int .i64 lo, .int .i64 hi] w fun e w' => ∃ o, e = .returned (.tuple #[.agg (blO k o).toArray, .bool o.isSome]) ∧ Best V k lo hi B o ∧ Below w.heap.size w w' := by
  have hz34 : Hid (zBl.length = 34) := hid (by simp [zBl, csB, bvs])
  have hOK := hid hB
  have hisq := hid (fun S W h1 h2 => isq18_any p b0 b1 b2 uk V slot S W h1 hV h2)
  obtain ⟨cs, hcs⟩ : ∃ cs, cs = iC uk V slot b0 b1 b2 := ⟨_, rfl⟩
  have h7 : cs[7]? = some (.map (some b2)) := by rw [hcs]; rfl
  rw [← hcs] at hb hisq
  clear hcs hB hV
  have b8 := Blk.new' w 72 zBl
  have hB0 : Below w.heap.size w (w.alloc (.cells zBl.toArray 72)) := (Below.refl _ _).alloc (Nat.le_refl _) _
  have hs0 : (w.alloc (.cells zBl.toArray 72)).heap.size = w.heap.size + 1 := by simp
  have h7 := hid h7
  go_enter Tryd.func22, Tryd.ntmps22
  go_wp2_with (first | (refine wp_new 72 rfl rfl zeroBl18 ?_; refine wp_stop ?_) | go_in)
  obtain ⟨w0, hw0⟩ : ∃ x, x = w.alloc (.cells zBl.toArray 72) := ⟨_, rfl⟩
  rw [← hw0] at b8 hB0 hs0 ⊢
  clear hw0
  have hpl := hb.lt
  have hbl := hM.lt
  have hb := hb.below hB0
  have hM := hM.below hB0
  obtain ⟨g8, hg8⟩ : ∃ g, g = w.heap.size := ⟨_, rfl⟩
  rw [← hg8] at b8 ⊢
  have hg8w : w.heap.size ≤ g8 := by omega
  have hp8 : p ≠ g8 := by omega
  have hb8 : b2 ≠ g8 := by omega
  have c7 := hb.cellAt 7 _ h7.out
  refine wp_go ?_
  go_wp2_with (first | (at_range; refine wp_rangeS 63 22 (.tmp 16) rfl rfl Tryd.underlying63 rfl hM ?_; intro w2 hR2 hG2 hs2) | go_in)
  try go_frame
  obtain ⟨it, hit⟩ : ∃ it, it = w0.heap.size := ⟨_, rfl⟩
  rw [← hit] at hR2 ⊢
  have hb := hb.keep (hG2.block p hb.lt (fun e => by cases e))
  have b8 := b8.keep (hG2.block g8 b8.lt (fun e => by cases e))
  have hB2 : Below w.heap.size w w2 := hB0.grown hG2 hB0.size (fun k hk => by cases hk)
  have hp9 : p ≠ it := by omega
  have hb9 : b2 ≠ it := by omega
  have h89 : g8 ≠ it := by omega
  have hitw : w.heap.size ≤ it := by omega
  have hit2 : it < w2.heap.size := by omega
  clear hit hs2 hG2 hM c7 hB0 hg8 hs0
  go_loopw [9] (fun fv wr => ∃ (o : Option (Int × List UInt8)) (dn rs : List (KyG Tryd.prog 72 × Nat)), fv = .bool o.isSome ∧ RS sM wr nob b2 it dn rs ∧ Hid (Best V k lo hi dn o) ∧ Hid ((dn ++ rs).Perm B) ∧ Blk wr g8 72 (blO k o) ∧ Ch (fun x => x = g8 ∨ x = it) w2 wr) (fun _ wr => wr.rangeLeft b2 it)
  case atStart => exact ⟨none, [], B, rfl, hR2, hid (Best.nil V k lo hi), hid (List.Perm.refl _), b8, Ch.refl _ _⟩
  case round =>
    clear hR2 b8
    obtain ⟨o, dn, rs, rfl, hR, hBst, hPm, b8, hC⟩ := hrel
    have hb := hb.ch hC (fun h => h.elim hp8 hp9)
    have hitr : it < wr.heap.size := by have := hC.size; omega
    have hl34 := blO_len hBst.out
    have hone := blO_one k o
    go_wp2_with (first | (at_next; refine wp_nextS (.tmp 17) rfl rfl rfl hR (fun h => h) ?_ ?_) | go_in)
    · intro hrs
      subst hrs
      have hfin := hBst.out.perm ((by rw [List.append_nil] at hPm; exact hPm.out : dn.Perm B))
      obtain ⟨lo8, hlo8⟩ : ∃ l, l = blO k o := ⟨_, rfl⟩
      rw [← hlo8] at b8 hl34 hone
      have Hlo8 := hid hlo8
      clear hlo8
      go_wp2_with (first | refine wp_ld 72 (.tmp 8) rfl rfl rfl b8.whole Tryd.underlying72 rfl (by rw [hl34]; exact sizeBl18) ?_ | (refine wp_st 72 (.tmp 8) (.tmp 57) rfl rfl rfl (f := 0) rfl (l := lo8) rfl b8 (by omega) (by rw [hl34]; exact sizeBl18) hone ?_; intro w4 k8 G8; refine wp_stop ?_) | go_in)
      rw [set_all _ _ rfl] at k8
      have hBe := Ch.below_of hB2 (hC.grow G8 (fun k hk => .inl (.inl (by injection hk with hk; exact hk.symm)))) (fun x hx => by rcases hx with rfl | rfl; exact hg8w; exact hitw) hB2.size
      refine wp_go ?_
      go_wp2
      refine ret_cell1 rfl rfl rfl k8.whole Tryd.underlying72 rfl (by rw [hl34]; exact sizeBl18) rfl ?_
      exact ⟨o, by rw [Hlo8.out]; rfl, hfin, hBe⟩
    · intro f1 S rs' v3 w3 hpp hR3 hv hlt3 hG3 hs3 hen
      have hv : v3 = .int .u16 (S : Int) := hv
      subst hv
      have hPm3 : Hid ((dn ++ [(f1, S)] ++ rs').Perm B) := hid (by
        rw [List.append_assoc]
        exact (hpp.symm.append_left dn).trans hPm.out)
      obtain ⟨k', r', d', hk', hr', hd', he, hS⟩ := hOK.out (f1, S) (hPm3.out.mem_iff.1 (by simp))
      have he : f1 = kyB k' r' d' := he
      have hS : S < 65536 := hS
      subst he
      have hst := hid (hBst.out.step hk hk' hr' hd' (S := S))
      replace hen : (Instr.entry (.pointer (some ⟨it, 0, none⟩))).run Tryd.prog w3 = .ok (.tuple #[.agg (csB k' r' d').toArray, .int .u16 (S : Int)]) w3 := by
        have e1 : sM.kv (kyB k' r' d') = .agg (csB k' r' d').toArray := kyB_v hk' hr' hd'
        rw [← e1]
        exact hen
      have e0 : (csB k' r' d')[0]? = some (.int .i64 k') := rfl
      have e1 : (csB k' r' d')[1]? = some (.int .i64 r') := rfl
      have hlx := len_csB (k := k') (r := r') hd'
      have hox := one_csB k' r' d'
      obtain ⟨lx, hlxe⟩ : ∃ l, l = csB k' r' d' := ⟨_, rfl⟩
      rw [← hlxe] at hen e0 e1 hlx hox
      have Hlx := hid hlxe
      have Hox := hid hox
      have E0 := hid e0
      have E1 := hid e1
      have hb := hb.keep (hG3.block p hb.lt (fun e => by injection e with e; exact hp9 e))
      have b8 := b8.keep (hG3.block g8 b8.lt (fun e => by injection e with e; exact h89 e))
      have hC := hC.grow hG3 (fun k hk => .inl (.inr (by injection hk with hk; exact hk.symm)))
      have hit3 : it < w3.heap.size := by omega
      have h83 := b8.lt
      clear hlxe hox e0 e1 hpp hR hG3 hs3 hPm hBst
      go_wp2_with (first | (refine wp_newst 72 10 (.tmp 21) rfl rfl rfl rfl rfl rfl zeroBl18 (l := lx) rfl (by rw [hlx]; exact hz34.out) (by rw [hlx]; exact sizeBl18) Hox.out (by simp) ?_; intro w4 hq4 hB4 hs4; refine wp_stop ?_) | go_in)
      have hb := hb.below hB4
      have b8 := b8.below hB4
      have hC := hC.belowR hB4
      have hR4 := RS.keep (F' := nob) hR3 (hB4.block b2 hR3.owns.lt) (hB4.block it hit3) (fun x hx h => h.elim)
      have hlq : w4.rangeLeft b2 it < wr.rangeLeft b2 it := by rw [hR4.2]; exact hlt3
      have hR4 := hR4.1
      obtain ⟨g10, hg10⟩ : ∃ g, g = w3.heap.size := ⟨_, rfl⟩
      have h10 : g8 < g10 := by omega
      rw [← hg10] at hq4 ⊢
      have hgi : it < g10 := by omega
      have c0 := hq4.cellAt 0 _ E0.out
      have c1 := hq4.cellAt 1 _ E1.out
      have hitx : it < w4.heap.size := by omega
      clear hen hR3 hB4 hs4 hlt3 hg10 hit3
      refine wp_go ?_
      by_cases q1 : k' = k
      · have Q1 : (k' == k) = true := by rw [q1]; simp
        have HQ1 := hid q1
        clear q1
        by_cases q2 : lo ≤ r'
        · have Q2 : decide (r' ≥ lo) = true := decide_eq_true q2
          have HQ2 := hid q2
          clear q2
          by_cases q3 : r' ≤ hi
          · have Q3 : decide (r' ≤ hi) = true := decide_eq_true q3
            have HQ3 := hid q3
            clear q3
            go_wp2_with (fail)
            refine (hisq.out S _ hb hS).mono ?_
            rintro e w5 ⟨rfl, hB5⟩
            have b8 := b8.below hB5
            have hs5 := hB5.size
            have hq4 := hq4.below hB5
            have hC := hC.belowR hB5
            have hit4 : it < w4.heap.size := hitx
            have hR5 := RS.keep (F' := nob) hR4 (hB5.block b2 hR4.owns.lt) (hB5.block it hit4) (fun x hx h => h.elim)
            have hlq : w5.rangeLeft b2 it < wr.rangeLeft b2 it := by rw [hR5.2]; exact hlq
            have hR4 := hR5.1
            have c1 := hq4.cellAt 1 _ E1.out
            obtain ⟨qq, hqq⟩ : ∃ q, q = qOK V S := ⟨_, rfl⟩
            rw [← hqq]
            have HQ := hid hqq
            clear hqq hB5 hR5 c0 hb
            cases qq with
            | false =>
              go_wp2
              go_roundw
              case rel => exact ⟨o, _, _, rfl, hR4, hid (by have := hst.out; rw [stepB_no (fun h => by have := h.2.1; rw [← HQ.out] at this; cases this)] at this; exact this), hPm3, b8, hC⟩
              case measure => exact hlq
            | true =>
              cases o with
              | none =>
                go_wp2_with (first | refine wp_ld 72 (.tmp 10) rfl rfl rfl hq4.whole Tryd.underlying72 rfl (by rw [hlx]; exact sizeBl18) ?_ | (refine wp_st 72 (.tmp 8) (.tmp 56) rfl rfl rfl (f := 0) rfl (l := lx) rfl b8 (by rw [hlx, hl34]; omega) (by rw [hlx]; exact sizeBl18) Hox.out ?_; intro w6 k8 G8; refine wp_stop ?_) | go_in)
                rw [set_all _ _ (by rw [hlx, hl34]), Hlx.out] at k8
                have hit5 : it < w5.heap.size := by omega
                have hR6 := RS.keep (F' := nob) hR4 (G8.block b2 hR4.owns.lt (fun e => by injection e with e; exact hb8 e)) (G8.block it hit5 (fun e => by injection e with e; exact h89 e.symm)) (fun x hx h => h.elim)
                have hlq : w6.rangeLeft b2 it < wr.rangeLeft b2 it := by rw [hR6.2]; exact hlq
                have hC := hC.grow G8 (fun k hk => .inl (.inl (by injection hk with hk; exact hk.symm)))
                have hR4 := hR6.1
                clear hR6 G8 b8
                refine wp_go ?_
                go_wp2
                go_roundw
                case rel => exact ⟨some (r', d'), _, _, rfl, hR4, hid (by have := hst.out; rw [stepB_yes ⟨⟨HQ1.out, HQ2.out, HQ3.out⟩, HQ.out.symm, fun x hx => by cases hx⟩] at this; exact this), hPm3, (by have := k8; rw [HQ1.out] at this; exact this), hC⟩
                case measure => exact hlq
              | some x =>
                obtain ⟨r0, d0⟩ := x
                have c8 := b8.cellAt 1 (.int .i64 r0) rfl
                by_cases q4 : r' < r0
                · have Q4 : decide (r' < r0) = true := decide_eq_true q4
                  have HQ4 := hid q4
                  clear q4
                  go_wp2_with (first | refine wp_ld 72 (.tmp 10) rfl rfl rfl hq4.whole Tryd.underlying72 rfl (by rw [hlx]; exact sizeBl18) ?_ | (refine wp_st 72 (.tmp 8) (.tmp 56) rfl rfl rfl (f := 0) rfl (l := lx) rfl b8 (by rw [hlx, hl34]; omega) (by rw [hlx]; exact sizeBl18) Hox.out ?_; intro w6 k8 G8; refine wp_stop ?_) | go_in)
                  rw [set_all _ _ (by rw [hlx, hl34]), Hlx.out] at k8
                  have hit5 : it < w5.heap.size := by omega
                  have hR6 := RS.keep (F' := nob) hR4 (G8.block b2 hR4.owns.lt (fun e => by injection e with e; exact hb8 e)) (G8.block it hit5 (fun e => by injection e with e; exact h89 e.symm)) (fun x hx h => h.elim)
                  have hlq : w6.rangeLeft b2 it < wr.rangeLeft b2 it := by rw [hR6.2]; exact hlq
                  have hC := hC.grow G8 (fun k hk => .inl (.inl (by injection hk with hk; exact hk.symm)))
                  have hR4 := hR6.1
                  clear hR6 G8 b8
                  refine wp_go ?_
                  go_wp2
                  go_roundw
                  case rel => exact ⟨some (r', d'), _, _, rfl, hR4, hid (by have := hst.out; rw [stepB_yes ⟨⟨HQ1.out, HQ2.out, HQ3.out⟩, HQ.out.symm, fun x hx => by injection hx with hx; subst hx; exact HQ4.out⟩] at this; exact this), hPm3, (by have := k8; rw [HQ1.out] at this; exact this), hC⟩
                  case measure => exact hlq
                · have Q4 : decide (r' < r0) = false := decide_eq_false q4
                  have HQ4 := hid q4
                  clear q4
                  go_wp2
                  go_roundw
                  case rel => exact ⟨some (r0, d0), _, _, rfl, hR4, hid (by have := hst.out; rw [stepB_no (fun h => by have h1 : r' < r0 := h.2.2 _ rfl; have h2 := HQ4.out; omega)] at this; exact this), hPm3, b8, hC⟩
                  case measure => exact hlq
          · have Q3 : decide (r' ≤ hi) = false := decide_eq_false q3
            have HQ3 := hid q3
            clear q3
            go_wp2
            go_roundw
            case rel => exact ⟨o, _, _, rfl, hR4, hid (by have := hst.out; rw [stepB_no (fun h => HQ3.out h.1.2.2)] at this; exact this), hPm3, b8, hC⟩
            case measure => exact hlq
        · have Q2 : decide (r' ≥ lo) = false := decide_eq_false q2
          have HQ2 := hid q2
          clear q2
          go_wp2
          go_roundw
          case rel => exact ⟨o, _, _, rfl, hR4, hid (by have := hst.out; rw [stepB_no (fun h => HQ2.out h.1.2.1)] at this; exact this), hPm3, b8, hC⟩
          case measure => exact hlq
      · have Q1 : (k' == k) = false := by rw [beq_eq_false_iff_ne]; exact q1
        have HQ1 := hid q1
        clear q1
        go_wp2
        go_roundw
        case rel => exact ⟨o, _, _, rfl, hR4, hid (by have := hst.out; rw [stepB_no (fun h => HQ1.out h.1.1)] at this; exact this), hPm3, b8, hC⟩
        case measure => exact hlq
end Go.Proofs.YtmjpkdehkdpdpaaDoor
/- NI: layer 18: contracts of sealsOf and New. -/
namespace Go.V
open Go.RowKit Go.Maps Go.ChangeShapes Go.WideShapes Go.ChangeMaps
section
variable {P : Program} {w : World} {ops : Array Oper} {o : Oper} {a : Act} {K : Act → World → Prop} {Q : Exit → Act → World → Prop} {E : Prop}
/-- 'make(map)', in a region that draws its order -/
theorem step_mm18 (t : TypeId) (hgd : o.guard = none) (ho : o.op = .makeMap t none)
    (h : ∀ g w', w.heap.size ≤ g → g < w'.heap.size → w'.heap[g]? = some (.map #[] 0) → Below w.heap.size w w' → K (a.put o.dst (.map (some g))) w') : if Region.wanted o (yielded ops a.tmps) = true then Oper.wp P o a w K Q else E := by
  have hw : Region.wanted o (yielded ops a.tmps) = true := by simp [Region.wanted, hgd]
  rw [if_pos hw]
  unfold Oper.wp execOp
  simp only [ho, Option.map_none, Sem.run_bind, Sem.run_pure, run_makeMap, Result.andThen_ok]
  exact h w.heap.size (w.alloc (.map #[] 0)) (Nat.le_refl _) (by simp) (heap_alloc_new w _) ((Below.refl _ _).alloc (Nat.le_refl _) _)
/-- '&T{..}', in a region that draws its order -/
theorem step_box18 (t : TypeId) (x : Operand) (hgd : o.guard = none) (ho : o.op = .box t x) {l : List Value} (hx : a.eval x = .agg l.toArray)
    (h : ∀ g w', w.heap.size ≤ g → g < w'.heap.size → Blk w' g t l → Below w.heap.size w w' → K (a.put o.dst (.pointer (some ⟨g, 0, none⟩))) w') : if Region.wanted o (yielded ops a.tmps) = true then Oper.wp P o a w K Q else E := by
  have hw : Region.wanted o (yielded ops a.tmps) = true := by simp [Region.wanted, hgd]
  rw [if_pos hw]
  unfold Oper.wp execOp
  have hr : (Instr.box t (.agg l.toArray)).run P w = .ok (.pointer (some ⟨w.heap.size, 0, none⟩)) (w.alloc (.cells l.toArray t)) := by
    simp [Instr.box, newVar, newRow, Value.cells]
  simp only [ho, hx, Sem.run_bind, Sem.run_pure, hr, Result.andThen_ok]
  exact h _ _ (Nat.le_refl _) (by simp) (Blk.new' w t l) ((Below.refl _ _).alloc (Nat.le_refl _) _)
end
theorem MpS.empty {P : Program} {k : TypeId} {κ β : Type} {T : MK P k κ β} {w : World} {F : Nat → Prop} {g : Nat} (h : w.heap[g]? = some (.map #[] 0)) : MpS T w F g [] := by
  obtain ⟨es, clock, hb, Fi, hs, hD⟩ := World.ownsMap_made w P k (heldA)
  have e1 := (MapKept.heap_alloc w (.map #[] 0)).1
  rw [e1] at hb
  injection hb with hb
  injection hb with h1 h2
  subst h1 h2
  exact ⟨[], [], rfl, ⟨_, _, h, Fi, hs, hD⟩, .refl _, fun p hp => by cases hp⟩
end Go.V
namespace Go.Proofs.YtmjpkdehkdpdpaaDoor
open Go.RowKit Go.V Go.Maps
theorem bldKs18 (A : Option Addr) (n c : Nat) : ∀ W : World, (Instr.build 33 #[(0, .slice A n c)]).run Tryd.prog W = .ok (.agg #[.slice A n c, .slice none 0 0]) W := fun _ => by kernel_rfl
theorem bldIn18 (A : Option Addr) (a c : Nat) (n m slot : Int) (g5 g6 g7 : Nat) : ∀ W : World, (Instr.build 65 #[(0, .agg #[.slice A a c, .slice none 0 0]), (1, .agg #[.int .i64 n, .int .u16 m]), (2, .int .i64 slot), (3, .map (some g5)), (4, .map (some g6)), (5, .map (some g7))]).run Tryd.prog W = .ok (.agg #[.slice A a c, .slice none 0 0, .int .i64 n, .int .u16 m, .int .i64 slot, .map (some g5), .map (some g6), .map (some g7)]) W := fun _ => by kernel_rfl
set_option maxRecDepth 100000 in
set_option maxHeartbeats 4000000 in
theorem seals18_any (ks : List (List UInt8)) (uk ur : Value) (F : Nat → Prop) (w : World) (hks : KsSm ks) (hk : Rd w F uk (tx ks)) :
    Calls Tryd.prog 19 #[.agg #[uk, ur]] w fun e w' => ∃ v', e = .returned v' ∧ Rd w' (fun b => w.heap.size ≤ b) v' (tx (ks.take 16)) ∧ Below w.heap.size w w' := by
  obtain ⟨A, c, rfl, hcA, hcm⟩ := hk.slShape
  obtain ⟨K, hK⟩ : ∃ K, K = ks.take 16 := ⟨_, rfl⟩
  have hKl : K.length = min ks.length 16 := by rw [hK, List.length_take]; omega
  have hKm := hid (fun X (hX : X ∈ K) => hks.t X (List.mem_of_mem_take (by rw [hK] at hX; exact hX)))
  have hmn := fun (W : World) (ts : Array TypeId) (t : TypeId) => Lib.run_min_ints (P := Tryd.prog) W ts t .i64 .i64 (ks.length : Int) 16
  have hme : min (ks.length : Int) 16 = (K.length : Int) := by omega
  have hcut := fun W => run_cut_h slBB8 A ks.length c (K.length : Int) (by omega) (by omega) W
  have hp : Rd w F (sliced A 0 K.length c 1) (tx K) := by
    have := Rd.piece (ds := ks.map bys) hk (by simp) (l := 0) (m := K.length) (by omega) (by omega)
    rw [List.drop_zero, Nat.sub_zero] at this
    have e1 : (ks.map bys).take K.length = K.map bys := by
      rw [hKl, ← List.map_take, hK, ← List.take_take, List.take_of_length_le (by rw [List.length_take]; omega)]
    rw [e1] at this
    exact this
  rw [Int.toNat_natCast] at hcut
  obtain ⟨A', c', hs', _, _⟩ := hp.slShape
  rw [hs'] at hp hcut
  rw [hme] at hmn
  have Hmn := hid hmn
  have Hcut := hid hcut
  clear hmn hcut hs' hme hcA hcm
  rw [← hK]
  obtain ⟨W0, hW0⟩ : ∃ x, x = w.alloc (.cells #[.slice A ks.length c, ur] 33) := ⟨_, rfl⟩
  have b1 : Blk W0 w.heap.size 33 [.slice A ks.length c, ur] := by rw [hW0]; exact Blk.new' w 33 _
  have hB0 : Below w.heap.size w W0 := by rw [hW0]; exact (Below.refl _ _).alloc (Nat.le_refl _) _
  have hp := hp.below hB0
  have c0 := b1.cellAt 0 _ rfl
  have hOT := OT.nil W0 35 W0.heap.size nob
  have hs0 := hB0.size
  have hK16 : K.length ≤ 16 := by omega
  clear hK hk hKl hks b1
  go_enter Tryd.func19, Tryd.ntmps19
  go_upto_region 2 with (fail)
  first | rw [← hW0] | (simp only [List.toArray] at hW0 ⊢; rw [← hW0])
  clear hW0
  have hmn := Hmn.out
  have hcut := Hcut.out
  go_wp2
  clear c0 hmn hcut
  go_loopw [3, 14] (fun ov iv wr => ∃ (i : Nat) (us' : List Value), i ≤ K.length ∧ iv = .int .i64 i ∧ OT wr 35 W0.heap.size nob ov (K.take i) us' ∧ Below W0.heap.size W0 wr) (fun _ i _ => K.length - (intOf i).toNat)
  case atStart => exact ⟨0, [], by omega, rfl, hOT, Below.refl _ _⟩
  case round =>
    clear hOT
    obtain ⟨i, us', hi, rfl, hOT, hBr⟩ := hrel
    have hszr := hBr.size
    have hp := hp.below hBr
    by_cases hlt : i < K.length
    · have hI : (i : Int) < (K.length : Int) := by omega
      obtain ⟨X, hX⟩ : ∃ X, K[i]? = some X := ⟨_, List.getElem?_eq_getElem hlt⟩
      have hXl := hKm.out X (List.mem_of_getElem? hX)
      have Hnx : Hid (K.take (i + 1) = K.take i ++ [X]) := hid (by rw [List.take_add_one, hX]; rfl)
      obtain ⟨gp, offp, u, hAp, _, hcu, hu⟩ := Rd.elem hp i (bys X) (by rw [List.getElem?_map, hX]; rfl)
      subst hAp
      obtain ⟨Au, cu, rfl⟩ := hu.shape
      have hDl : (K.take i).length = i := by rw [List.length_take]; omega
      obtain ⟨D, hD⟩ : ∃ D, D = K.take i := ⟨_, rfl⟩
      rw [← hD] at hOT Hnx hDl
      clear hX hD hp
      go_wp2_with (fail)
      refine (bclone_any X _ _ _ hu (by omega)).mono ?_
      rintro e w5 ⟨v5, rfl, ho5, hB5⟩
      obtain ⟨A5, c5, rfl⟩ := own_shape ho5
      have hv5 := OT.fresh18 hOT ho5 hszr
      have hOT := hOT.ch (G := nob) (Ch.of_below hB5) (fun b hb => hb.elim)
      have hBr := hBr.trans (hB5.mono hszr)
      have hszr := hBr.size
      clear hB5 hu hcu
      go_wp2_with (first | (refine wp_push (.tmp 18) (.tmp 20) 21 slBB8 rfl rfl rfl rfl rfl (u := .slice A5 X.length c5) rfl rfl rfl (by simp) rfl hOT.own (by rw [hDl]; simp only [maxLen]; omega) (by rw [hDl]; omega) hszr ?_; intro v6 w6 ho6 hG6 hd6; refine wp_stop ?_))
      have hBr := hBr.grown hG6 hszr (fun k hk => (hOT.own.lt k hk).1)
      have hOT := OT.pushG hOT hv5 (fun b h => h.elim) ho6 hG6 hd6
      refine wp_go ?_
      go_wp2
      go_roundw
      case rel => exact ⟨i + 1, _, by omega, by go_num, by rw [Hnx.out]; exact hOT, hBr⟩
      case measure => simp [intOf]; omega
    · have hI : ¬ (i : Int) < (K.length : Int) := by omega
      have htk : K.take i = K := List.take_of_length_le (by omega)
      rw [htk] at hOT
      have hfin := hOT.rd
      obtain ⟨Ao, co, rfl⟩ := own_shape hOT.own
      have hBe := hB0.trans (hBr.mono hs0)
      clear htk hp
      go_wp2
      go_ret
      exact ⟨_, rfl, hfin.weak (fun b _ h => Nat.le_trans hs0 h), hBe⟩
set_option maxRecDepth 100000 in
set_option maxHeartbeats 16000000 in
theorem inew18_any (ks : List (List UInt8)) (V : Vc) (slot : Int) (uk ur : Value) (F : Nat → Prop) (w : World) (_hKS : KS w) (hks : KsSm ks) (hk : Rd w F uk (tx ks)) (hV : in64w V.n ∧ V.m < 65536) (_hs : in64w slot) :
    Calls Tryd.prog 9 #[.agg #[uk, ur], vw V.n V.m, .int .i64 slot] w fun e w' => ∃ v M, e = .returned v ∧ NX w' v M (fun b => F b ∧ b < w.heap.size) ks V slot [] ∧ (∀ b, M b → w.heap.size ≤ b) ∧ Below w.heap.size w w' := by
  obtain ⟨n, m⟩ := V
  have hvb := hV.2
  dsimp only at hvb
  obtain ⟨W0, hW0, b3, b4, hB0⟩ := alloc2 w 33 24 [uk, ur] [.int .i64 n, .int .u16 (m : Int)]
  have hk := hk.below hB0
  have hsl : Hid (∀ W, Rd W F uk (tx ks) → Calls Tryd.prog 19 #[.agg #[uk, ur]] W fun e w' => ∃ v' s1, e = .returned v' ∧ s1 = W.heap.size ∧ Rd w' (fun b => s1 ≤ b) v' (tx (ks.take 16)) ∧ Below W.heap.size W w') := hid (fun W h => (seals18_any ks uk ur F W hks h).mono (fun e w' ⟨v, h1, h2, h3⟩ => ⟨v, _, h1, rfl, h2, h3⟩))
  obtain ⟨Kl, hK⟩ : ∃ Kl, Kl = ks.take 16 := ⟨_, rfl⟩
  rw [← hK] at hsl
  have hs0 := hB0.size
  have hFIN : Hid (∀ (w' : World) (p g5 g6 g7 : Nat) (v8 : Value) (F8 : Nat → Prop), Blk w' p 65 (iC v8 ⟨n, m⟩ slot g5 g6 g7) → Rd w' F8 v8 (tx Kl) → w'.heap[g6]? = some (.map #[] 0) → w'.heap[g7]? = some (.map #[] 0) → g6 ≠ g7 → g6 < p → g7 < p → (∀ b, F8 b → b ≠ p ∧ b ≠ g6 ∧ b ≠ g7 ∧ b < w'.heap.size ∧ W0.heap.size ≤ b) → W0.heap.size ≤ p → W0.heap.size ≤ g6 → W0.heap.size ≤ g7 → Below W0.heap.size W0 w' →
      ∃ v M, Ending.returned (.pointer (some ⟨p, 0, none⟩)) = .returned v ∧ NX w' v M (fun b => F b ∧ b < w.heap.size) ks ⟨n, m⟩ slot [] ∧ (∀ b, M b → w.heap.size ≤ b) ∧ Below w.heap.size w w') := hid (fun w' p g5 g6 g7 v8 F8 hb hr he6 he7 h67 h6 h7 hF hp' h6' h7' hB => by
    have hBe := hB0.trans (hB.mono hs0)
    have hse := hBe.size
    refine ⟨_, fun x => x = p ∨ x = g6 ∨ x = g7 ∨ F8 x, rfl, ⟨fun b hb => by have := hb.2; omega, p, g5, g6, g7, v8, F8, rfl, ⟨hb, by rw [← hK]; exact hr, MpS.empty he6, ⟨[], MpS.empty he7, BR.nil⟩, NvIn.nil _ _ _, hvb, ⟨by omega, by omega, h67⟩, fun x hx => ⟨(hF x hx).1, (hF x hx).2.1, (hF x hx).2.2.1, (hF x hx).2.2.2.1⟩⟩, fun x => Iff.rfl⟩, ?_, hBe⟩
    rintro x (rfl | rfl | rfl | hx)
    · omega
    · omega
    · omega
    · have := (hF x hx).2.2.2.2
      omega)
  clear hK hks hV
  unfold vw
  go_enter Tryd.func9, Tryd.ntmps9
  go_upto_region 1 with (fail)
  first | rw [← hW0] | (simp only [List.toArray] at hW0 ⊢; rw [← hW0])
  clear hW0
  obtain ⟨g4, hg4⟩ : ∃ g, g = w.heap.size + 1 := ⟨_, rfl⟩
  rw [← hg4] at b4 ⊢
  obtain ⟨g3, hg3⟩ : ∃ g, g = w.heap.size := ⟨_, rfl⟩
  rw [← hg3] at b3 ⊢
  clear hg3 hg4
  have HK : Hid (∀ W, Ch nob W0 W → W.rangeAt g3 0 [uk, ur]) := hid fun W hc => b3.chAt (fun h => h) hc
  have HV : Hid (∀ W, Ch nob W0 W → W.rangeAt g4 0 [.int .i64 n, .int .u16 (m : Int)]) := hid fun W hc => b4.chAt (fun h => h) hc
  have HRk : Hid (∀ W, Ch nob W0 W → Rd W F uk (tx ks)) := hid fun W hc => hk.below hc.below
  clear b3 b4 hk hB0 hs0
  refine wp_region_noPanic ?_
  refine wp_region_held_drew (S := Ch nob W0) (by kernel_rfl) ((Ch.refl _ _).drew) (fun hHeld => ?_)
  refine wpAnyH_take (i := 0) (oi := ⟨some 7, .load 33 (.tmp 3), _, _, _, none⟩) (v := _) rfl (by kernel_rfl) (by kernel_rfl) (by kernel_rfl) (fun _ _ _ h => h) (yieldsIf_load_mid (by rfl) 33 (.tmp 3) (by rfl) _ (0) (by rfl) _ _ (fun _ hs => HK.out _ hs) Tryd.underlying33 rfl (sizeKs17)) (by assumption) ?_
  try simp only [Act.put, List.setIfInBounds_toArray, List.set_cons_zero, List.set_cons_succ]
  refine wpAnyH_take (i := 3) (oi := ⟨some 10, .load 24 (.tmp 4), _, _, _, none⟩) (v := _) rfl (by kernel_rfl) (by kernel_rfl) (by kernel_rfl) (fun _ _ _ h => h) (yieldsIf_load_mid (by rfl) 24 (.tmp 4) (by rfl) _ (0) (by rfl) _ _ (fun _ hs => HV.out _ hs) Tryd.underlying24 rfl (sizeVw17)) (by assumption) ?_
  try simp only [Act.put, List.setIfInBounds_toArray, List.set_cons_zero, List.set_cons_succ]
  refine wpAnyH_take (i := 4) (oi := ⟨some 11, _, _, _, _, none⟩) (v := ?_) rfl (by kernel_rfl) (by kernel_rfl) (by kernel_rfl) (fun _ _ _ h => h) (Or.inl ⟨by rfl, ?_⟩) (by assumption) ?_
  rotate_left
  · intro w hSw; go_simp; try with_reducible rfl
  try simp only [Act.put, List.setIfInBounds_toArray, List.set_cons_zero, List.set_cons_succ]
  all_goals first
    | (refine wpAnyH_ready (rs := [1, 5, 6, 7]) (by kernel_rfl) (by simp) (AllReadyH.cons (o := ⟨some 8, _, _, _, _, none⟩) rfl (fun K hK => ?_) (AllReadyH.cons (o := ⟨some 12, .makeMap _ _, _, _, _, none⟩) rfl (fun K hK => ?_) (AllReadyH.cons (o := ⟨some 13, .makeMap _ _, _, _, _, none⟩) rfl (fun K hK => ?_) (AllReadyH.cons (o := ⟨some 14, .makeMap _ _, _, _, _, none⟩) rfl (fun K hK => ?_) AllReadyH.nil)))))
  all_goals first
    | (refine step_mm18 61 (by rfl) (by rfl) ?_
       intro g5 w5 hg5 l5 e5 B5
       have hw5 : W0.heap.size ≤ g5 := Nat.le_trans hHeld.size hg5
       try have d5_6 : g5 ≠ g6 := (Nat.ne_of_lt (Nat.lt_of_lt_of_le l6 hg5)).symm
       try have d5_7 : g5 ≠ g7 := (Nat.ne_of_lt (Nat.lt_of_lt_of_le l7 hg5)).symm
       try have hq5 : w1.heap.size ≤ g5 := Nat.le_trans hs1 hg5
       try replace hs1 := Nat.le_trans hs1 B5.size
       try replace hr8 := hr8.below B5
       try replace e6 := (B5.block g6 l6).trans e6
       try replace l6 := Nat.lt_of_lt_of_le l6 B5.size
       try replace e7 := (B5.block g7 l7).trans e7
       try replace l7 := Nat.lt_of_lt_of_le l7 B5.size
       refine hK.out _ _ (hHeld.belowR B5) (fun hHeld => ?_)
       clear hK K B5
       try simp only [Act.put, List.setIfInBounds_toArray, List.set_cons_zero, List.set_cons_succ])
    | (refine step_mm18 62 (by rfl) (by rfl) ?_
       intro g6 w6 hg6 l6 e6 B6
       have hw6 : W0.heap.size ≤ g6 := Nat.le_trans hHeld.size hg6
       try have d5_6 : g5 ≠ g6 := Nat.ne_of_lt (Nat.lt_of_lt_of_le l5 hg6)
       try have d6_7 : g6 ≠ g7 := (Nat.ne_of_lt (Nat.lt_of_lt_of_le l7 hg6)).symm
       try have hq6 : w1.heap.size ≤ g6 := Nat.le_trans hs1 hg6
       try replace hs1 := Nat.le_trans hs1 B6.size
       try replace hr8 := hr8.below B6
       try replace e5 := (B6.block g5 l5).trans e5
       try replace l5 := Nat.lt_of_lt_of_le l5 B6.size
       try replace e7 := (B6.block g7 l7).trans e7
       try replace l7 := Nat.lt_of_lt_of_le l7 B6.size
       refine hK.out _ _ (hHeld.belowR B6) (fun hHeld => ?_)
       clear hK K B6
       try simp only [Act.put, List.setIfInBounds_toArray, List.set_cons_zero, List.set_cons_succ])
    | (refine step_mm18 63 (by rfl) (by rfl) ?_
       intro g7 w7 hg7 l7 e7 B7
       have hw7 : W0.heap.size ≤ g7 := Nat.le_trans hHeld.size hg7
       try have d5_7 : g5 ≠ g7 := Nat.ne_of_lt (Nat.lt_of_lt_of_le l5 hg7)
       try have d6_7 : g6 ≠ g7 := Nat.ne_of_lt (Nat.lt_of_lt_of_le l6 hg7)
       try have hq7 : w1.heap.size ≤ g7 := Nat.le_trans hs1 hg7
       try replace hs1 := Nat.le_trans hs1 B7.size
       try replace hr8 := hr8.below B7
       try replace e5 := (B7.block g5 l5).trans e5
       try replace l5 := Nat.lt_of_lt_of_le l5 B7.size
       try replace e6 := (B7.block g6 l6).trans e6
       try replace l6 := Nat.lt_of_lt_of_le l6 B7.size
       refine hK.out _ _ (hHeld.belowR B7) (fun hHeld => ?_)
       clear hK K B7
       try simp only [Act.put, List.setIfInBounds_toArray, List.set_cons_zero, List.set_cons_succ])
    | (go_simp
       refine (hsl.out _ (HRk.out _ hHeld)).mono ?_
       rintro e' w1 ⟨v8, s1, rfl, hs1e, hr8, B1⟩
       obtain ⟨A8, c8, rfl, _, _⟩ := hr8.slShape
       have hs0 : W0.heap.size ≤ s1 := by rw [hs1e]; exact hHeld.size
       replace hr8 := hr8.weak (F' := fun b => s1 ≤ b ∧ b < w1.heap.size) (fun b hb h => ⟨h, hb⟩)
       have hs1 : w1.heap.size ≤ w1.heap.size := Nat.le_refl _
       try have hq5 : g5 < s1 := by rw [hs1e]; exact l5
       try replace e5 := (B1.block g5 l5).trans e5
       try replace l5 := Nat.lt_of_lt_of_le l5 B1.size
       try have hq6 : g6 < s1 := by rw [hs1e]; exact l6
       try replace e6 := (B1.block g6 l6).trans e6
       try replace l6 := Nat.lt_of_lt_of_le l6 B1.size
       try have hq7 : g7 < s1 := by rw [hs1e]; exact l7
       try replace e7 := (B1.block g7 l7).trans e7
       try replace l7 := Nat.lt_of_lt_of_le l7 B1.size
       refine hK.out _ _ (hHeld.belowR B1) (fun hHeld => ?_)
       clear hK K B1 hs1e
       try simp only [Act.put, List.setIfInBounds_toArray, List.set_cons_zero, List.set_cons_succ]
       refine wpAnyH_take (i := 2) (oi := ⟨some 9, _, _, _, _, none⟩) (v := _) rfl (by kernel_rfl) (by kernel_rfl) (by kernel_rfl) (fun _ _ _ h => h) (y_bld (by rfl) 33 [(0, .tmp 8)] (by rfl) [(0, .slice A8 Kl.length c8)] (by rfl) (bldKs18 _ _ _)) (by assumption) ?_
       try simp only [Act.put, List.setIfInBounds_toArray, List.set_cons_zero, List.set_cons_succ])
  all_goals first
    | (have hh := l7; clear hh; refine wpAnyH_ready (rs := [1, 5, 6]) (by kernel_rfl) (by simp) (AllReadyH.cons (o := ⟨some 8, _, _, _, _, none⟩) rfl (fun K hK => ?_) (AllReadyH.cons (o := ⟨some 12, .makeMap _ _, _, _, _, none⟩) rfl (fun K hK => ?_) (AllReadyH.cons (o := ⟨some 13, .makeMap _ _, _, _, _, none⟩) rfl (fun K hK => ?_) AllReadyH.nil))))
    | (have hh := l6; clear hh; refine wpAnyH_ready (rs := [1, 5, 7]) (by kernel_rfl) (by simp) (AllReadyH.cons (o := ⟨some 8, _, _, _, _, none⟩) rfl (fun K hK => ?_) (AllReadyH.cons (o := ⟨some 12, .makeMap _ _, _, _, _, none⟩) rfl (fun K hK => ?_) (AllReadyH.cons (o := ⟨some 14, .makeMap _ _, _, _, _, none⟩) rfl (fun K hK => ?_) AllReadyH.nil))))
    | (have hh := l5; clear hh; refine wpAnyH_ready (rs := [1, 6, 7]) (by kernel_rfl) (by simp) (AllReadyH.cons (o := ⟨some 8, _, _, _, _, none⟩) rfl (fun K hK => ?_) (AllReadyH.cons (o := ⟨some 13, .makeMap _ _, _, _, _, none⟩) rfl (fun K hK => ?_) (AllReadyH.cons (o := ⟨some 14, .makeMap _ _, _, _, _, none⟩) rfl (fun K hK => ?_) AllReadyH.nil))))
    | (have hh := hs1; clear hh; refine wpAnyH_ready (rs := [5, 6, 7]) (by kernel_rfl) (by simp) (AllReadyH.cons (o := ⟨some 12, .makeMap _ _, _, _, _, none⟩) rfl (fun K hK => ?_) (AllReadyH.cons (o := ⟨some 13, .makeMap _ _, _, _, _, none⟩) rfl (fun K hK => ?_) (AllReadyH.cons (o := ⟨some 14, .makeMap _ _, _, _, _, none⟩) rfl (fun K hK => ?_) AllReadyH.nil))))
  all_goals first
    | (refine step_mm18 61 (by rfl) (by rfl) ?_
       intro g5 w5 hg5 l5 e5 B5
       have hw5 : W0.heap.size ≤ g5 := Nat.le_trans hHeld.size hg5
       try have d5_6 : g5 ≠ g6 := (Nat.ne_of_lt (Nat.lt_of_lt_of_le l6 hg5)).symm
       try have d5_7 : g5 ≠ g7 := (Nat.ne_of_lt (Nat.lt_of_lt_of_le l7 hg5)).symm
       try have hq5 : w1.heap.size ≤ g5 := Nat.le_trans hs1 hg5
       try replace hs1 := Nat.le_trans hs1 B5.size
       try replace hr8 := hr8.below B5
       try replace e6 := (B5.block g6 l6).trans e6
       try replace l6 := Nat.lt_of_lt_of_le l6 B5.size
       try replace e7 := (B5.block g7 l7).trans e7
       try replace l7 := Nat.lt_of_lt_of_le l7 B5.size
       refine hK.out _ _ (hHeld.belowR B5) (fun hHeld => ?_)
       clear hK K B5
       try simp only [Act.put, List.setIfInBounds_toArray, List.set_cons_zero, List.set_cons_succ])
    | (refine step_mm18 62 (by rfl) (by rfl) ?_
       intro g6 w6 hg6 l6 e6 B6
       have hw6 : W0.heap.size ≤ g6 := Nat.le_trans hHeld.size hg6
       try have d5_6 : g5 ≠ g6 := Nat.ne_of_lt (Nat.lt_of_lt_of_le l5 hg6)
       try have d6_7 : g6 ≠ g7 := (Nat.ne_of_lt (Nat.lt_of_lt_of_le l7 hg6)).symm
       try have hq6 : w1.heap.size ≤ g6 := Nat.le_trans hs1 hg6
       try replace hs1 := Nat.le_trans hs1 B6.size
       try replace hr8 := hr8.below B6
       try replace e5 := (B6.block g5 l5).trans e5
       try replace l5 := Nat.lt_of_lt_of_le l5 B6.size
       try replace e7 := (B6.block g7 l7).trans e7
       try replace l7 := Nat.lt_of_lt_of_le l7 B6.size
       refine hK.out _ _ (hHeld.belowR B6) (fun hHeld => ?_)
       clear hK K B6
       try simp only [Act.put, List.setIfInBounds_toArray, List.set_cons_zero, List.set_cons_succ])
    | (refine step_mm18 63 (by rfl) (by rfl) ?_
       intro g7 w7 hg7 l7 e7 B7
       have hw7 : W0.heap.size ≤ g7 := Nat.le_trans hHeld.size hg7
       try have d5_7 : g5 ≠ g7 := Nat.ne_of_lt (Nat.lt_of_lt_of_le l5 hg7)
       try have d6_7 : g6 ≠ g7 := Nat.ne_of_lt (Nat.lt_of_lt_of_le l6 hg7)
       try have hq7 : w1.heap.size ≤ g7 := Nat.le_trans hs1 hg7
       try replace hs1 := Nat.le_trans hs1 B7.size
       try replace hr8 := hr8.below B7
       try replace e5 := (B7.block g5 l5).trans e5
       try replace l5 := Nat.lt_of_lt_of_le l5 B7.size
       try replace e6 := (B7.block g6 l6).trans e6
       try replace l6 := Nat.lt_of_lt_of_le l6 B7.size
       refine hK.out _ _ (hHeld.belowR B7) (fun hHeld => ?_)
       clear hK K B7
       try simp only [Act.put, List.setIfInBounds_toArray, List.set_cons_zero, List.set_cons_succ])
    | (go_simp
       refine (hsl.out _ (HRk.out _ hHeld)).mono ?_
       rintro e' w1 ⟨v8, s1, rfl, hs1e, hr8, B1⟩
       obtain ⟨A8, c8, rfl, _, _⟩ := hr8.slShape
       have hs0 : W0.heap.size ≤ s1 := by rw [hs1e]; exact hHeld.size
       replace hr8 := hr8.weak (F' := fun b => s1 ≤ b ∧ b < w1.heap.size) (fun b hb h => ⟨h, hb⟩)
       have hs1 : w1.heap.size ≤ w1.heap.size := Nat.le_refl _
       try have hq5 : g5 < s1 := by rw [hs1e]; exact l5
       try replace e5 := (B1.block g5 l5).trans e5
       try replace l5 := Nat.lt_of_lt_of_le l5 B1.size
       try have hq6 : g6 < s1 := by rw [hs1e]; exact l6
       try replace e6 := (B1.block g6 l6).trans e6
       try replace l6 := Nat.lt_of_lt_of_le l6 B1.size
       try have hq7 : g7 < s1 := by rw [hs1e]; exact l7
       try replace e7 := (B1.block g7 l7).trans e7
       try replace l7 := Nat.lt_of_lt_of_le l7 B1.size
       refine hK.out _ _ (hHeld.belowR B1) (fun hHeld => ?_)
       clear hK K B1 hs1e
       try simp only [Act.put, List.setIfInBounds_toArray, List.set_cons_zero, List.set_cons_succ]
       refine wpAnyH_take (i := 2) (oi := ⟨some 9, _, _, _, _, none⟩) (v := _) rfl (by kernel_rfl) (by kernel_rfl) (by kernel_rfl) (fun _ _ _ h => h) (y_bld (by rfl) 33 [(0, .tmp 8)] (by rfl) [(0, .slice A8 Kl.length c8)] (by rfl) (bldKs18 _ _ _)) (by assumption) ?_
       try simp only [Act.put, List.setIfInBounds_toArray, List.set_cons_zero, List.set_cons_succ])
  all_goals first
    | (have hh := l6; clear hh; have hh := l7; clear hh; refine wpAnyH_ready (rs := [1, 5]) (by kernel_rfl) (by simp) (AllReadyH.cons (o := ⟨some 8, _, _, _, _, none⟩) rfl (fun K hK => ?_) (AllReadyH.cons (o := ⟨some 12, .makeMap _ _, _, _, _, none⟩) rfl (fun K hK => ?_) AllReadyH.nil)))
    | (have hh := l5; clear hh; have hh := l7; clear hh; refine wpAnyH_ready (rs := [1, 6]) (by kernel_rfl) (by simp) (AllReadyH.cons (o := ⟨some 8, _, _, _, _, none⟩) rfl (fun K hK => ?_) (AllReadyH.cons (o := ⟨some 13, .makeMap _ _, _, _, _, none⟩) rfl (fun K hK => ?_) AllReadyH.nil)))
    | (have hh := l5; clear hh; have hh := l6; clear hh; refine wpAnyH_ready (rs := [1, 7]) (by kernel_rfl) (by simp) (AllReadyH.cons (o := ⟨some 8, _, _, _, _, none⟩) rfl (fun K hK => ?_) (AllReadyH.cons (o := ⟨some 14, .makeMap _ _, _, _, _, none⟩) rfl (fun K hK => ?_) AllReadyH.nil)))
    | (have hh := hs1; clear hh; have hh := l7; clear hh; refine wpAnyH_ready (rs := [5, 6]) (by kernel_rfl) (by simp) (AllReadyH.cons (o := ⟨some 12, .makeMap _ _, _, _, _, none⟩) rfl (fun K hK => ?_) (AllReadyH.cons (o := ⟨some 13, .makeMap _ _, _, _, _, none⟩) rfl (fun K hK => ?_) AllReadyH.nil)))
    | (have hh := hs1; clear hh; have hh := l6; clear hh; refine wpAnyH_ready (rs := [5, 7]) (by kernel_rfl) (by simp) (AllReadyH.cons (o := ⟨some 12, .makeMap _ _, _, _, _, none⟩) rfl (fun K hK => ?_) (AllReadyH.cons (o := ⟨some 14, .makeMap _ _, _, _, _, none⟩) rfl (fun K hK => ?_) AllReadyH.nil)))
    | (have hh := hs1; clear hh; have hh := l5; clear hh; refine wpAnyH_ready (rs := [6, 7]) (by kernel_rfl) (by simp) (AllReadyH.cons (o := ⟨some 13, .makeMap _ _, _, _, _, none⟩) rfl (fun K hK => ?_) (AllReadyH.cons (o := ⟨some 14, .makeMap _ _, _, _, _, none⟩) rfl (fun K hK => ?_) AllReadyH.nil)))
  all_goals first
    | (refine step_mm18 61 (by rfl) (by rfl) ?_
       intro g5 w5 hg5 l5 e5 B5
       have hw5 : W0.heap.size ≤ g5 := Nat.le_trans hHeld.size hg5
       try have d5_6 : g5 ≠ g6 := (Nat.ne_of_lt (Nat.lt_of_lt_of_le l6 hg5)).symm
       try have d5_7 : g5 ≠ g7 := (Nat.ne_of_lt (Nat.lt_of_lt_of_le l7 hg5)).symm
       try have hq5 : w1.heap.size ≤ g5 := Nat.le_trans hs1 hg5
       try replace hs1 := Nat.le_trans hs1 B5.size
       try replace hr8 := hr8.below B5
       try replace e6 := (B5.block g6 l6).trans e6
       try replace l6 := Nat.lt_of_lt_of_le l6 B5.size
       try replace e7 := (B5.block g7 l7).trans e7
       try replace l7 := Nat.lt_of_lt_of_le l7 B5.size
       refine hK.out _ _ (hHeld.belowR B5) (fun hHeld => ?_)
       clear hK K B5
       try simp only [Act.put, List.setIfInBounds_toArray, List.set_cons_zero, List.set_cons_succ])
    | (refine step_mm18 62 (by rfl) (by rfl) ?_
       intro g6 w6 hg6 l6 e6 B6
       have hw6 : W0.heap.size ≤ g6 := Nat.le_trans hHeld.size hg6
       try have d5_6 : g5 ≠ g6 := Nat.ne_of_lt (Nat.lt_of_lt_of_le l5 hg6)
       try have d6_7 : g6 ≠ g7 := (Nat.ne_of_lt (Nat.lt_of_lt_of_le l7 hg6)).symm
       try have hq6 : w1.heap.size ≤ g6 := Nat.le_trans hs1 hg6
       try replace hs1 := Nat.le_trans hs1 B6.size
       try replace hr8 := hr8.below B6
       try replace e5 := (B6.block g5 l5).trans e5
       try replace l5 := Nat.lt_of_lt_of_le l5 B6.size
       try replace e7 := (B6.block g7 l7).trans e7
       try replace l7 := Nat.lt_of_lt_of_le l7 B6.size
       refine hK.out _ _ (hHeld.belowR B6) (fun hHeld => ?_)
       clear hK K B6
       try simp only [Act.put, List.setIfInBounds_toArray, List.set_cons_zero, List.set_cons_succ])
    | (refine step_mm18 63 (by rfl) (by rfl) ?_
       intro g7 w7 hg7 l7 e7 B7
       have hw7 : W0.heap.size ≤ g7 := Nat.le_trans hHeld.size hg7
       try have d5_7 : g5 ≠ g7 := Nat.ne_of_lt (Nat.lt_of_lt_of_le l5 hg7)
       try have d6_7 : g6 ≠ g7 := Nat.ne_of_lt (Nat.lt_of_lt_of_le l6 hg7)
       try have hq7 : w1.heap.size ≤ g7 := Nat.le_trans hs1 hg7
       try replace hs1 := Nat.le_trans hs1 B7.size
       try replace hr8 := hr8.below B7
       try replace e5 := (B7.block g5 l5).trans e5
       try replace l5 := Nat.lt_of_lt_of_le l5 B7.size
       try replace e6 := (B7.block g6 l6).trans e6
       try replace l6 := Nat.lt_of_lt_of_le l6 B7.size
       refine hK.out _ _ (hHeld.belowR B7) (fun hHeld => ?_)
       clear hK K B7
       try simp only [Act.put, List.setIfInBounds_toArray, List.set_cons_zero, List.set_cons_succ])
    | (go_simp
       refine (hsl.out _ (HRk.out _ hHeld)).mono ?_
       rintro e' w1 ⟨v8, s1, rfl, hs1e, hr8, B1⟩
       obtain ⟨A8, c8, rfl, _, _⟩ := hr8.slShape
       have hs0 : W0.heap.size ≤ s1 := by rw [hs1e]; exact hHeld.size
       replace hr8 := hr8.weak (F' := fun b => s1 ≤ b ∧ b < w1.heap.size) (fun b hb h => ⟨h, hb⟩)
       have hs1 : w1.heap.size ≤ w1.heap.size := Nat.le_refl _
       try have hq5 : g5 < s1 := by rw [hs1e]; exact l5
       try replace e5 := (B1.block g5 l5).trans e5
       try replace l5 := Nat.lt_of_lt_of_le l5 B1.size
       try have hq6 : g6 < s1 := by rw [hs1e]; exact l6
       try replace e6 := (B1.block g6 l6).trans e6
       try replace l6 := Nat.lt_of_lt_of_le l6 B1.size
       try have hq7 : g7 < s1 := by rw [hs1e]; exact l7
       try replace e7 := (B1.block g7 l7).trans e7
       try replace l7 := Nat.lt_of_lt_of_le l7 B1.size
       refine hK.out _ _ (hHeld.belowR B1) (fun hHeld => ?_)
       clear hK K B1 hs1e
       try simp only [Act.put, List.setIfInBounds_toArray, List.set_cons_zero, List.set_cons_succ]
       refine wpAnyH_take (i := 2) (oi := ⟨some 9, _, _, _, _, none⟩) (v := _) rfl (by kernel_rfl) (by kernel_rfl) (by kernel_rfl) (fun _ _ _ h => h) (y_bld (by rfl) 33 [(0, .tmp 8)] (by rfl) [(0, .slice A8 Kl.length c8)] (by rfl) (bldKs18 _ _ _)) (by assumption) ?_
       try simp only [Act.put, List.setIfInBounds_toArray, List.set_cons_zero, List.set_cons_succ])
  all_goals first
    | (have hh := l5; clear hh; have hh := l6; clear hh; have hh := l7; clear hh; refine wpAnyH_ready (rs := [1]) (by kernel_rfl) (by simp) (AllReadyH.cons (o := ⟨some 8, _, _, _, _, none⟩) rfl (fun K hK => ?_) AllReadyH.nil))
    | (have hh := hs1; clear hh; have hh := l6; clear hh; have hh := l7; clear hh; refine wpAnyH_ready (rs := [5]) (by kernel_rfl) (by simp) (AllReadyH.cons (o := ⟨some 12, .makeMap _ _, _, _, _, none⟩) rfl (fun K hK => ?_) AllReadyH.nil))
    | (have hh := hs1; clear hh; have hh := l5; clear hh; have hh := l7; clear hh; refine wpAnyH_ready (rs := [6]) (by kernel_rfl) (by simp) (AllReadyH.cons (o := ⟨some 13, .makeMap _ _, _, _, _, none⟩) rfl (fun K hK => ?_) AllReadyH.nil))
    | (have hh := hs1; clear hh; have hh := l5; clear hh; have hh := l6; clear hh; refine wpAnyH_ready (rs := [7]) (by kernel_rfl) (by simp) (AllReadyH.cons (o := ⟨some 14, .makeMap _ _, _, _, _, none⟩) rfl (fun K hK => ?_) AllReadyH.nil))
  all_goals first
    | (refine step_mm18 61 (by rfl) (by rfl) ?_
       intro g5 w5 hg5 l5 e5 B5
       have hw5 : W0.heap.size ≤ g5 := Nat.le_trans hHeld.size hg5
       try have d5_6 : g5 ≠ g6 := (Nat.ne_of_lt (Nat.lt_of_lt_of_le l6 hg5)).symm
       try have d5_7 : g5 ≠ g7 := (Nat.ne_of_lt (Nat.lt_of_lt_of_le l7 hg5)).symm
       try have hq5 : w1.heap.size ≤ g5 := Nat.le_trans hs1 hg5
       try replace hs1 := Nat.le_trans hs1 B5.size
       try replace hr8 := hr8.below B5
       try replace e6 := (B5.block g6 l6).trans e6
       try replace l6 := Nat.lt_of_lt_of_le l6 B5.size
       try replace e7 := (B5.block g7 l7).trans e7
       try replace l7 := Nat.lt_of_lt_of_le l7 B5.size
       refine hK.out _ _ (hHeld.belowR B5) (fun hHeld => ?_)
       clear hK K B5
       try simp only [Act.put, List.setIfInBounds_toArray, List.set_cons_zero, List.set_cons_succ])
    | (refine step_mm18 62 (by rfl) (by rfl) ?_
       intro g6 w6 hg6 l6 e6 B6
       have hw6 : W0.heap.size ≤ g6 := Nat.le_trans hHeld.size hg6
       try have d5_6 : g5 ≠ g6 := Nat.ne_of_lt (Nat.lt_of_lt_of_le l5 hg6)
       try have d6_7 : g6 ≠ g7 := (Nat.ne_of_lt (Nat.lt_of_lt_of_le l7 hg6)).symm
       try have hq6 : w1.heap.size ≤ g6 := Nat.le_trans hs1 hg6
       try replace hs1 := Nat.le_trans hs1 B6.size
       try replace hr8 := hr8.below B6
       try replace e5 := (B6.block g5 l5).trans e5
       try replace l5 := Nat.lt_of_lt_of_le l5 B6.size
       try replace e7 := (B6.block g7 l7).trans e7
       try replace l7 := Nat.lt_of_lt_of_le l7 B6.size
       refine hK.out _ _ (hHeld.belowR B6) (fun hHeld => ?_)
       clear hK K B6
       try simp only [Act.put, List.setIfInBounds_toArray, List.set_cons_zero, List.set_cons_succ])
    | (refine step_mm18 63 (by rfl) (by rfl) ?_
       intro g7 w7 hg7 l7 e7 B7
       have hw7 : W0.heap.size ≤ g7 := Nat.le_trans hHeld.size hg7
       try have d5_7 : g5 ≠ g7 := Nat.ne_of_lt (Nat.lt_of_lt_of_le l5 hg7)
       try have d6_7 : g6 ≠ g7 := Nat.ne_of_lt (Nat.lt_of_lt_of_le l6 hg7)
       try have hq7 : w1.heap.size ≤ g7 := Nat.le_trans hs1 hg7
       try replace hs1 := Nat.le_trans hs1 B7.size
       try replace hr8 := hr8.below B7
       try replace e5 := (B7.block g5 l5).trans e5
       try replace l5 := Nat.lt_of_lt_of_le l5 B7.size
       try replace e6 := (B7.block g6 l6).trans e6
       try replace l6 := Nat.lt_of_lt_of_le l6 B7.size
       refine hK.out _ _ (hHeld.belowR B7) (fun hHeld => ?_)
       clear hK K B7
       try simp only [Act.put, List.setIfInBounds_toArray, List.set_cons_zero, List.set_cons_succ])
    | (go_simp
       refine (hsl.out _ (HRk.out _ hHeld)).mono ?_
       rintro e' w1 ⟨v8, s1, rfl, hs1e, hr8, B1⟩
       obtain ⟨A8, c8, rfl, _, _⟩ := hr8.slShape
       have hs0 : W0.heap.size ≤ s1 := by rw [hs1e]; exact hHeld.size
       replace hr8 := hr8.weak (F' := fun b => s1 ≤ b ∧ b < w1.heap.size) (fun b hb h => ⟨h, hb⟩)
       have hs1 : w1.heap.size ≤ w1.heap.size := Nat.le_refl _
       try have hq5 : g5 < s1 := by rw [hs1e]; exact l5
       try replace e5 := (B1.block g5 l5).trans e5
       try replace l5 := Nat.lt_of_lt_of_le l5 B1.size
       try have hq6 : g6 < s1 := by rw [hs1e]; exact l6
       try replace e6 := (B1.block g6 l6).trans e6
       try replace l6 := Nat.lt_of_lt_of_le l6 B1.size
       try have hq7 : g7 < s1 := by rw [hs1e]; exact l7
       try replace e7 := (B1.block g7 l7).trans e7
       try replace l7 := Nat.lt_of_lt_of_le l7 B1.size
       refine hK.out _ _ (hHeld.belowR B1) (fun hHeld => ?_)
       clear hK K B1 hs1e
       try simp only [Act.put, List.setIfInBounds_toArray, List.set_cons_zero, List.set_cons_succ]
       refine wpAnyH_take (i := 2) (oi := ⟨some 9, _, _, _, _, none⟩) (v := _) rfl (by kernel_rfl) (by kernel_rfl) (by kernel_rfl) (fun _ _ _ h => h) (y_bld (by rfl) 33 [(0, .tmp 8)] (by rfl) [(0, .slice A8 Kl.length c8)] (by rfl) (bldKs18 _ _ _)) (by assumption) ?_
       try simp only [Act.put, List.setIfInBounds_toArray, List.set_cons_zero, List.set_cons_succ])
  all_goals
    refine wpAnyH_take (i := 8) (oi := ⟨some 15, _, _, _, _, none⟩) (v := _) rfl (by kernel_rfl) (by kernel_rfl) (by kernel_rfl) (fun _ _ _ h => h) (y_bld (by rfl) 65 [(0, .tmp 9), (1, .tmp 10), (2, .tmp 11), (3, .tmp 12), (4, .tmp 13), (5, .tmp 14)] (by rfl) [(0, .agg #[.slice A8 Kl.length c8, .slice none 0 0]), (1, .agg #[.int .i64 n, .int .u16 (m : Int)]), (2, .int .i64 slot), (3, .map (some g5)), (4, .map (some g6)), (5, .map (some g7))] (by rfl) (bldIn18 _ _ _ _ _ _ _ _ _)) (by assumption) ?_
    try simp only [Act.put, List.setIfInBounds_toArray, List.set_cons_zero, List.set_cons_succ]
    refine wpAnyH_ready (rs := [9]) (by kernel_rfl) (by simp) ?_
    refine AllReadyH.cons (o := ⟨some 16, .box _ _, _, _, _, none⟩) rfl (fun K hK => ?_) AllReadyH.nil
    refine step_box18 65 (.tmp 15) (by rfl) (by rfl) (l := iC (.slice A8 Kl.length c8) ⟨n, m⟩ slot g5 g6 g7) (by rfl) ?_
    intro p w9 hp9 lp b9 B9
    have hwp : W0.heap.size ≤ p := Nat.le_trans hHeld.size hp9
    have p6 : g6 < p := Nat.lt_of_lt_of_le l6 hp9
    have p7 : g7 < p := Nat.lt_of_lt_of_le l7 hp9
    have p8 : w1.heap.size ≤ p := Nat.le_trans hs1 hp9
    replace hs1 := Nat.le_trans hs1 B9.size
    replace e6 := (B9.block g6 l6).trans e6
    replace e7 := (B9.block g7 l7).trans e7
    replace hr8 := hr8.below B9
    have hfin := hFIN.out w9 p g5 g6 g7 (.slice A8 Kl.length c8) _ b9 hr8 e6 e7 d6_7 p6 p7 (fun b h => by have h1 := h.1; have h2 := h.2; exact ⟨by omega, by omega, by omega, by omega, by omega⟩) hwp hw6 hw7 (hHeld.belowR B9).below
    refine hK.out _ _ (hHeld.belowR B9) (fun hHeld => ?_)
    clear hK K B9
    try simp only [Act.put, List.setIfInBounds_toArray, List.set_cons_zero, List.set_cons_succ]
    refine wpAnyH_take (i := 10) (oi := ⟨some 6, _, _, _, _, none⟩) (v := ?_) rfl (by kernel_rfl) (by kernel_rfl) (by kernel_rfl) (fun _ _ _ h => h) (Or.inl ⟨by rfl, ?_⟩) (by assumption) ?_
    rotate_left
    · intro w hSw; go_simp; try with_reducible rfl
    try simp only [Act.put, List.setIfInBounds_toArray, List.set_cons_zero, List.set_cons_succ]
    refine wpAnyH_done (by kernel_rfl) ?_ _
    refine NoPanic.normal ?_
    clear hHeld
    go_wp2
    go_ret
    obtain ⟨v0, M0, z1, z2, z3, z4⟩ := hfin
    first | exact ⟨v0, M0, z1, z2, z3, z4⟩ | exact ⟨v0, z1, M0, z2, z3, z4⟩
end Go.Proofs.YtmjpkdehkdpdpaaDoor
/- KC: layer 18: contracts of package inst, over the landed code. -/
namespace Go.V
open Go.RowKit
theorem ret_ctt18 {P : Program} {fn : Func} {R : Ending → World → Prop} {a : Act} {w : World} {p q s : Tmp} {ty : TypeId} (hf : fn.results = #[.cell p ty, .tmp q, .tmp s]) {b f : Nat} (hp : a.tmps.getD p undef = .pointer (some ⟨b, f, none⟩)) {u v : Value} (hq : a.tmps.getD q undef = u) (hs : a.tmps.getD s undef = v) {l : List Value} (hr : w.rangeAt b f l)
    {d : TypeDesc} (hu : P.underlying ty = some d) (hd : d.isRow = true) (hi : (P.info? ty).map (·.size) = some l.length) (hdf : a.defers = []) (h : R (.returned (.tuple #[.agg l.toArray, u, v])) w) : bodyPost P fn R .ret a w := by
  refine bodyPost_ret (v := .tuple #[.agg l.toArray, u, v]) ?_ hdf h
  have hp' : a.tmps[p]?.getD undef = .pointer (some ⟨b, f, none⟩) := by simpa using hp
  have hq' : a.tmps[q]?.getD undef = u := by simpa using hq
  have hs' : a.tmps[s]?.getD undef = v := by simpa using hs
  simp [results, hf, hp', hq', hs', asAddr, run_loadVar_mid w b f ty l d hr hu hd hi]
theorem ret_tctt18 {P : Program} {fn : Func} {R : Ending → World → Prop} {a : Act} {w : World} {p q s z : Tmp} {ty : TypeId} (hf : fn.results = #[.tmp z, .cell p ty, .tmp q, .tmp s]) {b f : Nat} (hp : a.tmps.getD p undef = .pointer (some ⟨b, f, none⟩)) {u v y : Value} (hz : a.tmps.getD z undef = y) (hq : a.tmps.getD q undef = u) (hs : a.tmps.getD s undef = v) {l : List Value} (hr : w.rangeAt b f l)
    {d : TypeDesc} (hu : P.underlying ty = some d) (hd : d.isRow = true) (hi : (P.info? ty).map (·.size) = some l.length) (hdf : a.defers = []) (h : R (.returned (.tuple #[y, .agg l.toArray, u, v])) w) : bodyPost P fn R .ret a w := by
  refine bodyPost_ret (v := .tuple #[y, .agg l.toArray, u, v]) ?_ hdf h
  have hp' : a.tmps[p]?.getD undef = .pointer (some ⟨b, f, none⟩) := by simpa using hp
  have hq' : a.tmps[q]?.getD undef = u := by simpa using hq
  have hs' : a.tmps[s]?.getD undef = v := by simpa using hs
  have hz' : a.tmps[z]?.getD undef = y := by simpa using hz
  simp [results, hf, hp', hq', hs', hz', asAddr, run_loadVar_mid w b f ty l d hr hu hd hi]
end Go.V
namespace Go.Proofs.YtmjpkdehkdpdpaaDoor
open Go.RowKit Go.V Go.Maps
/-- what is told of a digest that a quorum votes for -/
def tolH (o : Option (List UInt8)) : List UInt8 := o.getD (List.replicate 32 0)
def tolP (o : Option (List UInt8)) (f : List UInt8 → List (List UInt8)) : List (List UInt8) := match o with | some d => f d | none => []
/-- nobody votes for what is no vote's kind -/
theorem for_zero {ks : List (List UInt8)} {V : Vc} {slot : Int} {L : List Nv} (h : NvIn ks V slot L) (r : Int) (d : List UInt8) : forC L 0 r d = [] := by
  apply List.eq_nil_iff_forall_not_mem.2
  intro X hX
  obtain ⟨i, v, _, hv, hp, _⟩ := mem_for hX
  have hp := (of_decide_eq_true hp).2.1
  have := (tl_ok (h.v v hv)).2.1
  omega
set_option maxRecDepth 100000 in
set_option maxHeartbeats 8000000 in
theorem iwritten18_any (v : Value) (M N : Nat → Prop) (ks : List (List UInt8)) (V : Vc) (slot : Int) (L : List Nv) (r : Int) (w : World) (_hKS : KS w) (hr : in64w r) (h : NX w v M N ks V slot L) :
    Calls Tryd.prog 12 #[v, .int .i64 r] w fun e w' => ∃ u, e = .returned (.tuple #[.agg (bvs (tolH (mstC V L 2 r))).toArray, u, .bool (mstC V L 2 r).isSome]) ∧ Rd w' (fun b => M b ∨ w.heap.size ≤ b) u (tx (tolP (mstC V L 2 r) (forC L 2 r))) ∧ Below w.heap.size w w' := by
  obtain ⟨hN, p, b0, b1, b2, uk, F, rfl, hm, hM⟩ := h
  obtain ⟨n, m⟩ := V
  have hvb := hm.vb
  dsimp only at hvb
  obtain ⟨B, hsm, hBR⟩ := hm.sm
  have hvin := hm.vin
  have hu := hsm.uq
  have HFIN : Hid (∀ o, Best ⟨n, m⟩ 2 r r B o → ∃ (k' r' : Int) (d' : List UInt8), blO 2 o = csB k' r' d' ∧ in64w k' ∧ in64w r' ∧ d'.length = 32 ∧ bvs (tolH (mstC ⟨n, m⟩ L 2 r)) = bvs d' ∧ tolP (mstC ⟨n, m⟩ L 2 r) (forC L 2 r) = forC L k' r' d' ∧ (mstC ⟨n, m⟩ L 2 r).isSome = o.isSome) := hid (fun o ho => by
    have h := best_mst hvin hBR hu (by unfold in64w; omega) hr ho
    cases o with
    | none =>
      have e : mstC ⟨n, m⟩ L 2 r = none := h.1
      exact ⟨0, 0, List.replicate 32 0, rfl, in0, in0, by simp, by rw [e]; rfl, by rw [e]; exact (for_zero hvin 0 _).symm, by rw [e]; rfl⟩
    | some x =>
      have e : mstC ⟨n, m⟩ L 2 r = some x.2 := h.1
      have e2 : x.1 = r := h.2 x rfl
      exact ⟨2, x.1, x.2, rfl, by unfold in64w; omega, ho.1, ho.2.1, by rw [e]; rfl, by rw [e, e2]; rfl, by rw [e]; rfl⟩)
  have hwin := hid (fun W h1 h2 => winner18_any p b0 b1 b2 uk ⟨n, m⟩ slot B 2 r r W h1 hvb h2 (hBR.ok hu) (by unfold in64w; omega))
  have HIM := hid hm
  have hsm0 := hsm
  have b4 := Blk.new' w 41 (zs8 32)
  have hB0 : Below w.heap.size w (w.alloc (.cells (zs8 32).toArray 41)) := (Below.refl _ _).alloc (Nat.le_refl _) _
  clear hu hBR hvin hsm hN hM
  go_enter Tryd.func12, Tryd.ntmps12
  go_wp2_with (first | (refine wp_new 41 rfl rfl zero25 ?_; refine wp_stop ?_))
  obtain ⟨w0, hw0⟩ : ∃ x, x = w.alloc (.cells (zs8 32).toArray 41) := ⟨_, rfl⟩
  rw [← hw0] at b4 hB0 ⊢
  clear hw0
  obtain ⟨g4, hg4⟩ : ∃ g, g = w.heap.size := ⟨_, rfl⟩
  rw [← hg4] at b4 ⊢
  have hg4w : w.heap.size ≤ g4 := by omega
  have h4p : p < g4 ∧ b1 < g4 ∧ b2 < g4 ∧ ∀ x, F x → x < g4 := by
    refine ⟨by have := hm.blk.lt; omega, by have := hm.vm.lt; omega, by have := hsm0.lt; omega, fun x hx => by have := (hm.f x hx).2.2.2; omega⟩
  clear hg4
  have hm0 := hm.below hB0
  have hsm1 := hsm0.below hB0
  refine wp_go ?_
  go_wp2_with (fail)
  refine (hwin.out _ hm0.blk hsm1).mono ?_
  rintro e w1 ⟨o, rfl, hbst, hB1⟩
  obtain ⟨k', r', d', hbl, hk', hr', hd', hfact⟩ := HFIN.out o hbst
  have Hfact := hid hfact
  have hm1 := hm0.below hB1
  have b4 := b4.below hB1
  have hBw := hB0.trans (hB1.mono hB0.size)
  have hvo := hid (fun W h1 => votes18_any p b0 b1 b2 uk F ks ⟨n, m⟩ slot L k' r' d' W h1 hk' hr' hd')
  have hxl := len_csB (k := k') (r := r') hd'
  have hxo := one_csB k' r' d'
  have hxh : ∀ j v, (bvs d')[j]? = some v → (csB k' r' d')[2 + j]? = some v := fun j v hv => by
    unfold csB
    rw [List.getElem?_append_right (by simp)]
    simpa using hv
  have hx1 : (csB k' r' d')[1]? = some (.int .i64 r') := rfl
  have Hdl : Hid ((bvs d').length = 32) := hid (by rw [len_bvs]; exact hd')
  have Hdo := hid (oneCell_bvs d')
  rw [hbl]
  obtain ⟨lx, hlx⟩ : ∃ l, l = csB k' r' d' := ⟨_, rfl⟩
  rw [← hlx] at hxl hxo hxh hx1 hvo ⊢
  have Hxl := hid hxl
  have Hxo := hid hxo
  have Hxh := hid hxh
  have Hx1 := hid hx1
  obtain ⟨dl, hdl⟩ : ∃ l, l = bvs d' := ⟨_, rfl⟩
  rw [← hdl] at Hdl Hdo Hxh Hfact
  obtain ⟨is, his⟩ : ∃ is, is = o.isSome := ⟨_, rfl⟩
  rw [← his] at Hfact ⊢
  clear hm hm0 hsm0 hsm1 hwin HFIN hbst hbl hB1 hB0 hxl hxo hxh hx1 hlx hdl his hfact
  go_wp2_with (first | (refine wp_newst 72 7 (.tmp 17) rfl rfl rfl rfl rfl rfl zeroBl18 (l := lx) rfl (by rw [Hxl.out]; simp [zBl, csB, bvs]) (by rw [Hxl.out]; exact sizeBl18) Hxo.out (by simp) ?_; intro w2 b7 hB2 hs2; refine wp_stop ?_))
  have hm2 := hm1.below hB2
  have hl4 := b4.lt
  have b4 := b4.below hB2
  have hBw := hBw.trans (hB2.mono hBw.size)
  obtain ⟨g7, hg7⟩ : ∃ g, g = w1.heap.size := ⟨_, rfl⟩
  rw [← hg7] at b7 hl4 ⊢
  clear hs2 hB2 hg7 hm1
  refine wp_go ?_
  go_upto_region 4 with (fail)
  obtain ⟨wq, hwq⟩ : ∃ x, x = w2 := ⟨_, rfl⟩
  rw [← hwq] at b4 b7 hm2 hBw ⊢
  clear hwq
  have hmd : IM wq.drew p b0 b1 b2 uk F ks ⟨n, m⟩ slot L := hm2.keep (w' := wq.drew) (Nat.le_refl _) (fun _ _ => rfl)
  have b4d := b4.drew
  have h74 : g7 ≠ g4 := by omega
  have HB : Hid (∀ W, Ch (fun y => y = g4) wq W → W.rangeAt g7 0 lx) := hid fun W hc => b7.chAt h74 hc
  have HH : Hid (∀ W, Ch (fun y => y = g4) wq W → W.rangeAt g7 2 dl) := hid fun W hc => (b7.ch hc h74).range 2 _ Hxh.out
  have HR : Hid (∀ W, Ch (fun y => y = g4) wq W → W.cell? ⟨g7, 1, none⟩ = some (.int .i64 r')) := hid fun W hc => (b7.ch hc h74).cellAt 1 _ Hx1.out
  have hwq4 : g4 < wq.heap.size := b4.lt
  refine wp_region_noPanic ?_
  refine wp_region_held_drew (S := Ch (fun y => y = g4) wq) (by kernel_rfl) ((Ch.refl _ _).drew) (fun hHeld => ?_)
  refine wpAnyH_take (i := 0) (oi := ⟨some 19, _, _, _, _, none⟩) (v := ?_) rfl (by kernel_rfl) (by kernel_rfl) (by kernel_rfl) (fun _ _ _ h => h) (Or.inl ⟨by rfl, ?_⟩) (by assumption) ?_
  rotate_left
  · intro w hSw; go_simp; try with_reducible rfl
  try simp only [Act.put, List.setIfInBounds_toArray, List.set_cons_zero, List.set_cons_succ]
  refine wpAnyH_take (i := 1) (oi := ⟨some 20, .load 41 (.tmp 19), _, _, _, none⟩) (v := _) rfl (by kernel_rfl) (by kernel_rfl) (by kernel_rfl) (fun _ _ _ h => h) (yieldsIf_load_mid (by rfl) 41 (.tmp 19) (by rfl) _ (2) (by rfl) _ _ (fun _ hs => HH.out _ hs) Tryd.underlying41 rfl (by rw [Hdl.out]; exact size25)) (by assumption) ?_
  try simp only [Act.put, List.setIfInBounds_toArray, List.set_cons_zero, List.set_cons_succ]
  refine wpAnyH_take (i := 2) (oi := ⟨some 21, _, _, _, _, none⟩) (v := ?_) rfl (by kernel_rfl) (by kernel_rfl) (by kernel_rfl) (fun _ _ _ h => h) (Or.inl ⟨by rfl, ?_⟩) (by assumption) ?_
  rotate_left
  · intro w hSw; go_simp; try with_reducible rfl
  try simp only [Act.put, List.setIfInBounds_toArray, List.set_cons_zero, List.set_cons_succ]
  refine wpAnyH_take (i := 3) (oi := ⟨some 22, .load 72 (.tmp 7), _, _, _, none⟩) (v := _) rfl (by kernel_rfl) (by kernel_rfl) (by kernel_rfl) (fun _ _ _ h => h) (yieldsIf_load_mid (by rfl) 72 (.tmp 7) (by rfl) _ (0) (by rfl) _ _ (fun _ hs => HB.out _ hs) Tryd.underlying72 rfl (by rw [Hxl.out]; exact sizeBl18)) (by assumption) ?_
  try simp only [Act.put, List.setIfInBounds_toArray, List.set_cons_zero, List.set_cons_succ]
  refine wpAnyH_take (i := 5) (oi := ⟨some 24, _, _, _, _, none⟩) (v := ?_) rfl (by kernel_rfl) (by kernel_rfl) (by kernel_rfl) (fun _ _ _ h => h) (Or.inl ⟨by rfl, ?_⟩) (by assumption) ?_
  rotate_left
  · intro w hSw; go_simp; try with_reducible rfl
  try simp only [Act.put, List.setIfInBounds_toArray, List.set_cons_zero, List.set_cons_succ]
  refine wpAnyH_ready (rs := [4]) (by kernel_rfl) (by simp) ?_
  refine AllReadyH.cons (o := ⟨some 23, _, _, _, _, none⟩) rfl (fun K hK => ?_) AllReadyH.nil
  go_simp
  refine (hvo.out _ hmd).mono ?_
  rintro e' w5 ⟨u5', rfl, hr5, B5⟩
  obtain ⟨A5, c5, rfl, _, _⟩ := hr5.slShape
  have hC5 := hHeld.belowR B5
  have b4' := b4d.below B5
  refine hK.out _ _ (hC5) (fun hHeld => ?_)
  clear hK K
  try simp only [Act.put, List.setIfInBounds_toArray, List.set_cons_zero, List.set_cons_succ]
  refine wpAnyH_ready (rs := [6]) (by kernel_rfl) (by simp) ?_
  refine AllReadyH.cons (o := ⟨none, .store _ _ _, _, _, _, none⟩) rfl (fun K hK => ?_) AllReadyH.nil
  refine step_st 41 (.tmp 4) (.tmp 20) (by rfl) (by rfl) (by rfl) (f := 0) (by rfl) (l := dl) (by rfl) b4' (by rw [Hdl.out]; simp [zs8]) (by rw [Hdl.out]; exact size25) Hdo.out ?_
  intro w6 k6 G6
  rw [set_all _ _ (by rw [Hdl.out]; simp [zs8])] at k6
  refine hK.out _ _ (hC5.grow G6 (fun k hk => .inl (by injection hk with hk; exact hk.symm))) (fun hHeld => ?_)
  clear hK K
  try simp only [Act.put, List.setIfInBounds_toArray, List.set_cons_zero, List.set_cons_succ]
  refine wpAnyH_take (i := 7) (oi := ⟨some 5, _, _, _, _, none⟩) (v := ?_) rfl (by kernel_rfl) (by kernel_rfl) (by kernel_rfl) (fun _ _ _ h => h) (Or.inl ⟨by rfl, ?_⟩) (by assumption) ?_
  rotate_left
  · intro w hSw; go_simp; try with_reducible rfl
  try simp only [Act.put, List.setIfInBounds_toArray, List.set_cons_zero, List.set_cons_succ]
  refine wpAnyH_take (i := 8) (oi := ⟨some 6, _, _, _, _, none⟩) (v := ?_) rfl (by kernel_rfl) (by kernel_rfl) (by kernel_rfl) (fun _ _ _ h => h) (Or.inl ⟨by rfl, ?_⟩) (by assumption) ?_
  rotate_left
  · intro w hSw; go_simp; try with_reducible rfl
  try simp only [Act.put, List.setIfInBounds_toArray, List.set_cons_zero, List.set_cons_succ]
  refine wpAnyH_done (by kernel_rfl) ?_ _
  refine NoPanic.normal ?_
  have hBe := Ch.below_of hBw hHeld (fun y hy => by have hy : y = g4 := hy; omega) hBw.size
  have hr6 : Rd w6 (fun b => w.heap.size ≤ b) (.slice A5 _ c5) (tx (forC L k' r' d')) := hr5.keep (fun b hb h => by
    have h : wq.drew.heap.size ≤ b := h
    have h : wq.heap.size ≤ b := h
    have := hBw.size
    exact ⟨by omega, G6.block b hb (fun e => by injection e with e; omega)⟩)
  have Hr6 := hid hr6
  have HBe := hid hBe
  clear hr5 hr6 hBe hHeld hC5 b4' G6 B5 hmd b4d HB HH HR hm2 b7 b4
  go_wp2
  refine ret_ctt18 rfl rfl rfl rfl k6.whole Tryd.underlying41 rfl (by rw [Hdl.out]; exact size25) rfl ?_
  exact ⟨_, by rw [Hfact.out.1, Hfact.out.2.2]; rfl, by rw [Hfact.out.2.1]; exact Hr6.out.weak (fun b _ h => .inr h), HBe.out⟩
set_option maxRecDepth 100000 in
set_option maxHeartbeats 8000000 in
theorem iaccepted18_any (v : Value) (M N : Nat → Prop) (ks : List (List UInt8)) (V : Vc) (slot : Int) (L : List Nv) (w : World) (_hKS : KS w) (h : NX w v M N ks V slot L) :
    Calls Tryd.prog 14 #[v] w fun e w' => ∃ u, e = .returned (.tuple #[.int .i64 (((accC V L).getD 0 : Nat) : Int), .agg (bvs (tolH ((accC V L).bind fun r => mstC V L 3 (r : Int)))).toArray, u, .bool (accC V L).isSome]) ∧ Rd w' (fun b => M b ∨ w.heap.size ≤ b) u (tx (tolP ((accC V L).bind fun r => mstC V L 3 (r : Int)) (forC L 3 (((accC V L).getD 0 : Nat) : Int)))) ∧ Below w.heap.size w w' := by
  obtain ⟨hN, p, b0, b1, b2, uk, F, rfl, hm, hM⟩ := h
  obtain ⟨n, m⟩ := V
  have hvb := hm.vb
  dsimp only at hvb
  obtain ⟨B, hsm, hBR⟩ := hm.sm
  have hvin := hm.vin
  have hu := hsm.uq
  have HFIN : Hid (∀ o, Best ⟨n, m⟩ 3 0 40 B o → ∃ (k' r' : Int) (d' : List UInt8), blO 3 o = csB k' r' d' ∧ in64w k' ∧ in64w r' ∧ d'.length = 32 ∧ bvs (tolH ((accC ⟨n, m⟩ L).bind fun r => mstC ⟨n, m⟩ L 3 (r : Int))) = bvs d' ∧ tolP ((accC ⟨n, m⟩ L).bind fun r => mstC ⟨n, m⟩ L 3 (r : Int)) (forC L 3 (((accC ⟨n, m⟩ L).getD 0 : Nat) : Int)) = forC L k' r' d' ∧ (accC ⟨n, m⟩ L).isSome = o.isSome ∧ (((accC ⟨n, m⟩ L).getD 0 : Nat) : Int) = r') := hid (fun o ho => by
    have h := best_acc hvin hBR hu ho
    cases o with
    | none =>
      have e : accC ⟨n, m⟩ L = none := h
      exact ⟨0, 0, List.replicate 32 0, rfl, in0, in0, by simp, by rw [e]; rfl, by rw [e]; exact (for_zero hvin 0 _).symm, by rw [e]; rfl, by rw [e]; rfl⟩
    | some x =>
      obtain ⟨x1, x2⟩ := x
      obtain ⟨j, hj, e, e3⟩ := h
      exact ⟨3, x1, x2, rfl, by unfold in64w; omega, ho.1, ho.2.1, by rw [e]; show bvs (tolH (mstC _ _ _ _)) = _; rw [e3]; rfl, by rw [e]; show tolP (mstC _ _ _ _) (forC L 3 (j : Int)) = _; rw [e3, hj]; rfl, by rw [e]; rfl, by rw [e, hj]; rfl⟩)
  have hwin := hid (fun W h1 h2 => winner18_any p b0 b1 b2 uk ⟨n, m⟩ slot B 3 0 40 W h1 hvb h2 (hBR.ok hu) (by unfold in64w; omega))
  have HIM := hid hm
  have hsm0 := hsm
  have b4 := Blk.new' w 41 (zs8 32)
  have hB0 : Below w.heap.size w (w.alloc (.cells (zs8 32).toArray 41)) := (Below.refl _ _).alloc (Nat.le_refl _) _
  clear hu hBR hvin hsm hN hM
  go_enter Tryd.func14, Tryd.ntmps14
  go_wp2_with (first | (refine wp_new 41 rfl rfl zero25 ?_; refine wp_stop ?_))
  obtain ⟨w0, hw0⟩ : ∃ x, x = w.alloc (.cells (zs8 32).toArray 41) := ⟨_, rfl⟩
  rw [← hw0] at b4 hB0 ⊢
  clear hw0
  obtain ⟨g4, hg4⟩ : ∃ g, g = w.heap.size := ⟨_, rfl⟩
  rw [← hg4] at b4 ⊢
  have hg4w : w.heap.size ≤ g4 := by omega
  have h4p : p < g4 ∧ b1 < g4 ∧ b2 < g4 ∧ ∀ x, F x → x < g4 := by
    refine ⟨by have := hm.blk.lt; omega, by have := hm.vm.lt; omega, by have := hsm0.lt; omega, fun x hx => by have := (hm.f x hx).2.2.2; omega⟩
  clear hg4
  have hm0 := hm.below hB0
  have hsm1 := hsm0.below hB0
  refine wp_go ?_
  go_wp2_with (fail)
  refine (hwin.out _ hm0.blk hsm1).mono ?_
  rintro e w1 ⟨o, rfl, hbst, hB1⟩
  obtain ⟨k', r', d', hbl, hk', hr', hd', hfact⟩ := HFIN.out o hbst
  have Hfact := hid hfact
  have hm1 := hm0.below hB1
  have b4 := b4.below hB1
  have hBw := hB0.trans (hB1.mono hB0.size)
  have hvo := hid (fun W h1 => votes18_any p b0 b1 b2 uk F ks ⟨n, m⟩ slot L k' r' d' W h1 hk' hr' hd')
  have hxl := len_csB (k := k') (r := r') hd'
  have hxo := one_csB k' r' d'
  have hxh : ∀ j v, (bvs d')[j]? = some v → (csB k' r' d')[2 + j]? = some v := fun j v hv => by
    unfold csB
    rw [List.getElem?_append_right (by simp)]
    simpa using hv
  have hx1 : (csB k' r' d')[1]? = some (.int .i64 r') := rfl
  have Hdl : Hid ((bvs d').length = 32) := hid (by rw [len_bvs]; exact hd')
  have Hdo := hid (oneCell_bvs d')
  rw [hbl]
  obtain ⟨lx, hlx⟩ : ∃ l, l = csB k' r' d' := ⟨_, rfl⟩
  rw [← hlx] at hxl hxo hxh hx1 hvo ⊢
  have Hxl := hid hxl
  have Hxo := hid hxo
  have Hxh := hid hxh
  have Hx1 := hid hx1
  obtain ⟨dl, hdl⟩ : ∃ l, l = bvs d' := ⟨_, rfl⟩
  rw [← hdl] at Hdl Hdo Hxh Hfact
  obtain ⟨is, his⟩ : ∃ is, is = o.isSome := ⟨_, rfl⟩
  rw [← his] at Hfact ⊢
  clear hm hm0 hsm0 hsm1 hwin HFIN hbst hbl hB1 hB0 hxl hxo hxh hx1 hlx hdl his hfact
  go_wp2_with (first | (refine wp_newst 72 6 (.tmp 14) rfl rfl rfl rfl rfl rfl zeroBl18 (l := lx) rfl (by rw [Hxl.out]; simp [zBl, csB, bvs]) (by rw [Hxl.out]; exact sizeBl18) Hxo.out (by simp) ?_; intro w2 b7 hB2 hs2; refine wp_stop ?_))
  have hm2 := hm1.below hB2
  have hl4 := b4.lt
  have b4 := b4.below hB2
  have hBw := hBw.trans (hB2.mono hBw.size)
  obtain ⟨g7, hg7⟩ : ∃ g, g = w1.heap.size := ⟨_, rfl⟩
  rw [← hg7] at b7 hl4 ⊢
  clear hs2 hB2 hg7 hm1
  refine wp_go ?_
  go_upto_region 4 with (fail)
  obtain ⟨wq, hwq⟩ : ∃ x, x = w2 := ⟨_, rfl⟩
  rw [← hwq] at b4 b7 hm2 hBw ⊢
  clear hwq
  have hmd : IM wq.drew p b0 b1 b2 uk F ks ⟨n, m⟩ slot L := hm2.keep (w' := wq.drew) (Nat.le_refl _) (fun _ _ => rfl)
  have b4d := b4.drew
  have h74 : g7 ≠ g4 := by omega
  have HB : Hid (∀ W, Ch (fun y => y = g4) wq W → W.rangeAt g7 0 lx) := hid fun W hc => b7.chAt h74 hc
  have HH : Hid (∀ W, Ch (fun y => y = g4) wq W → W.rangeAt g7 2 dl) := hid fun W hc => (b7.ch hc h74).range 2 _ Hxh.out
  have HR : Hid (∀ W, Ch (fun y => y = g4) wq W → W.cell? ⟨g7, 1, none⟩ = some (.int .i64 r')) := hid fun W hc => (b7.ch hc h74).cellAt 1 _ Hx1.out
  have hwq4 : g4 < wq.heap.size := b4.lt
  refine wp_region_noPanic ?_
  refine wp_region_held_drew (S := Ch (fun y => y = g4) wq) (by kernel_rfl) ((Ch.refl _ _).drew) (fun hHeld => ?_)
  refine wpAnyH_take (i := 0) (oi := ⟨some 16, _, _, _, _, none⟩) (v := ?_) rfl (by kernel_rfl) (by kernel_rfl) (by kernel_rfl) (fun _ _ _ h => h) (Or.inl ⟨by rfl, ?_⟩) (by assumption) ?_
  rotate_left
  · intro w hSw; go_simp; try with_reducible rfl
  try simp only [Act.put, List.setIfInBounds_toArray, List.set_cons_zero, List.set_cons_succ]
  refine wpAnyH_take (i := 1) (oi := ⟨some 17, _, _, _, _, none⟩) (v := ?_) rfl (by kernel_rfl) (by kernel_rfl) (by kernel_rfl) (fun _ _ _ h => h) (Or.inl ⟨by rfl, ?_⟩) (by assumption) ?_
  rotate_left
  · intro w hSw; have hcw := HR.out w hSw; go_simp; try with_reducible rfl
  try simp only [Act.put, List.setIfInBounds_toArray, List.set_cons_zero, List.set_cons_succ]
  refine wpAnyH_take (i := 2) (oi := ⟨some 18, _, _, _, _, none⟩) (v := ?_) rfl (by kernel_rfl) (by kernel_rfl) (by kernel_rfl) (fun _ _ _ h => h) (Or.inl ⟨by rfl, ?_⟩) (by assumption) ?_
  rotate_left
  · intro w hSw; go_simp; try with_reducible rfl
  try simp only [Act.put, List.setIfInBounds_toArray, List.set_cons_zero, List.set_cons_succ]
  refine wpAnyH_take (i := 3) (oi := ⟨some 19, .load 41 (.tmp 18), _, _, _, none⟩) (v := _) rfl (by kernel_rfl) (by kernel_rfl) (by kernel_rfl) (fun _ _ _ h => h) (yieldsIf_load_mid (by rfl) 41 (.tmp 18) (by rfl) _ (2) (by rfl) _ _ (fun _ hs => HH.out _ hs) Tryd.underlying41 rfl (by rw [Hdl.out]; exact size25)) (by assumption) ?_
  try simp only [Act.put, List.setIfInBounds_toArray, List.set_cons_zero, List.set_cons_succ]
  refine wpAnyH_take (i := 4) (oi := ⟨some 20, _, _, _, _, none⟩) (v := ?_) rfl (by kernel_rfl) (by kernel_rfl) (by kernel_rfl) (fun _ _ _ h => h) (Or.inl ⟨by rfl, ?_⟩) (by assumption) ?_
  rotate_left
  · intro w hSw; go_simp; try with_reducible rfl
  try simp only [Act.put, List.setIfInBounds_toArray, List.set_cons_zero, List.set_cons_succ]
  refine wpAnyH_take (i := 5) (oi := ⟨some 21, .load 72 (.tmp 6), _, _, _, none⟩) (v := _) rfl (by kernel_rfl) (by kernel_rfl) (by kernel_rfl) (fun _ _ _ h => h) (yieldsIf_load_mid (by rfl) 72 (.tmp 6) (by rfl) _ (0) (by rfl) _ _ (fun _ hs => HB.out _ hs) Tryd.underlying72 rfl (by rw [Hxl.out]; exact sizeBl18)) (by assumption) ?_
  try simp only [Act.put, List.setIfInBounds_toArray, List.set_cons_zero, List.set_cons_succ]
  refine wpAnyH_take (i := 7) (oi := ⟨some 23, _, _, _, _, none⟩) (v := ?_) rfl (by kernel_rfl) (by kernel_rfl) (by kernel_rfl) (fun _ _ _ h => h) (Or.inl ⟨by rfl, ?_⟩) (by assumption) ?_
  rotate_left
  · intro w hSw; go_simp; try with_reducible rfl
  try simp only [Act.put, List.setIfInBounds_toArray, List.set_cons_zero, List.set_cons_succ]
  refine wpAnyH_ready (rs := [6]) (by kernel_rfl) (by simp) ?_
  refine AllReadyH.cons (o := ⟨some 22, _, _, _, _, none⟩) rfl (fun K hK => ?_) AllReadyH.nil
  go_simp
  refine (hvo.out _ hmd).mono ?_
  rintro e' w5 ⟨u5', rfl, hr5, B5⟩
  obtain ⟨A5, c5, rfl, _, _⟩ := hr5.slShape
  have hC5 := hHeld.belowR B5
  have b4' := b4d.below B5
  refine hK.out _ _ (hC5) (fun hHeld => ?_)
  clear hK K
  try simp only [Act.put, List.setIfInBounds_toArray, List.set_cons_zero, List.set_cons_succ]
  refine wpAnyH_take (i := 8) (oi := ⟨some 2, _, _, _, _, none⟩) (v := ?_) rfl (by kernel_rfl) (by kernel_rfl) (by kernel_rfl) (fun _ _ _ h => h) (Or.inl ⟨by rfl, ?_⟩) (by assumption) ?_
  rotate_left
  · intro w hSw; go_simp; try with_reducible rfl
  try simp only [Act.put, List.setIfInBounds_toArray, List.set_cons_zero, List.set_cons_succ]
  refine wpAnyH_ready (rs := [9]) (by kernel_rfl) (by simp) ?_
  refine AllReadyH.cons (o := ⟨none, .store _ _ _, _, _, _, none⟩) rfl (fun K hK => ?_) AllReadyH.nil
  refine step_st 41 (.tmp 3) (.tmp 19) (by rfl) (by rfl) (by rfl) (f := 0) (by rfl) (l := dl) (by rfl) b4' (by rw [Hdl.out]; simp [zs8]) (by rw [Hdl.out]; exact size25) Hdo.out ?_
  intro w6 k6 G6
  rw [set_all _ _ (by rw [Hdl.out]; simp [zs8])] at k6
  refine hK.out _ _ (hC5.grow G6 (fun k hk => .inl (by injection hk with hk; exact hk.symm))) (fun hHeld => ?_)
  clear hK K
  try simp only [Act.put, List.setIfInBounds_toArray, List.set_cons_zero, List.set_cons_succ]
  refine wpAnyH_take (i := 10) (oi := ⟨some 4, _, _, _, _, none⟩) (v := ?_) rfl (by kernel_rfl) (by kernel_rfl) (by kernel_rfl) (fun _ _ _ h => h) (Or.inl ⟨by rfl, ?_⟩) (by assumption) ?_
  rotate_left
  · intro w hSw; go_simp; try with_reducible rfl
  try simp only [Act.put, List.setIfInBounds_toArray, List.set_cons_zero, List.set_cons_succ]
  refine wpAnyH_take (i := 11) (oi := ⟨some 5, _, _, _, _, none⟩) (v := ?_) rfl (by kernel_rfl) (by kernel_rfl) (by kernel_rfl) (fun _ _ _ h => h) (Or.inl ⟨by rfl, ?_⟩) (by assumption) ?_
  rotate_left
  · intro w hSw; go_simp; try with_reducible rfl
  try simp only [Act.put, List.setIfInBounds_toArray, List.set_cons_zero, List.set_cons_succ]
  refine wpAnyH_done (by kernel_rfl) ?_ _
  refine NoPanic.normal ?_
  have hBe := Ch.below_of hBw hHeld (fun y hy => by have hy : y = g4 := hy; omega) hBw.size
  have hr6 : Rd w6 (fun b => w.heap.size ≤ b) (.slice A5 _ c5) (tx (forC L k' r' d')) := hr5.keep (fun b hb h => by
    have h : wq.drew.heap.size ≤ b := h
    have h : wq.heap.size ≤ b := h
    have := hBw.size
    exact ⟨by omega, G6.block b hb (fun e => by injection e with e; omega)⟩)
  have Hr6 := hid hr6
  have HBe := hid hBe
  clear hr5 hr6 hBe hHeld hC5 b4' G6 B5 hmd b4d HB HH HR hm2 b7 b4
  go_wp2
  refine ret_tctt18 rfl rfl rfl rfl rfl k6.whole Tryd.underlying41 rfl (by rw [Hdl.out]; exact size25) rfl ?_
  exact ⟨_, by rw [Hfact.out.1, Hfact.out.2.2.1, Hfact.out.2.2.2]; rfl, by rw [Hfact.out.2.1]; exact Hr6.out.weak (fun b _ h => .inr h), HBe.out⟩
theorem bldHz18 : ∀ W : World, (Instr.build 41 #[]).run Tryd.prog W = .ok (.agg (zs8 32).toArray) W := fun _ => by kernel_rfl
set_option maxHeartbeats 2000000 in
theorem itake18_nil (X : List UInt8) (u : Value) (F : Nat → Prop) (w : World) (hu : Rd w F u (bys X)) :
    Calls Tryd.prog 11 #[.pointer none, u] w fun e w' => e = .returned (.int .i64 16) ∧ Below w.heap.size w w' := by
  obtain ⟨A, c, rfl⟩ := hu.shape
  go_enter Tryd.func11, Tryd.ntmps11
  go_wp2
  go_ret
  exact ⟨rfl, Below.refl _ _⟩
set_option maxHeartbeats 2000000 in
theorem ibatch18_nil (d : List UInt8) (w : World) (_hd : d.length = 32) :
    Calls Tryd.prog 17 #[.pointer none, .agg (bvs d).toArray] w fun e w' => ∃ u, e = .returned (.tuple #[u, .bool false]) ∧ Rd w' (fun b => w.heap.size ≤ b) u (bys []) ∧ Below w.heap.size w w' := by
  obtain ⟨l, hl⟩ : ∃ l, l = bvs d := ⟨_, rfl⟩
  rw [← hl]
  clear hl
  have hB : Below w.heap.size w (w.alloc (.cells l.toArray 41)) := (Below.refl _ _).alloc (Nat.le_refl _) _
  go_enter Tryd.func17, Tryd.ntmps17
  go_wp2
  go_ret2
  exact ⟨_, rfl, Rd.nil _ _, hB⟩
theorem rd_nil18 (w : World) (F : Nat → Prop) : Rd w F (.slice none 0 0) (tx []) := by
  unfold tx Rd
  exact ⟨none, 0, rfl, Nat.le_refl _, by simp [maxLen], fun _ => rfl, fun h => absurd rfl h⟩
theorem zs_bvs : zs8 32 = bvs (List.replicate 32 0) := by simp [zs8, bvs, byteV]
set_option maxHeartbeats 2000000 in
theorem iwritten18_nil (r : Int) (w : World) :
    Calls Tryd.prog 12 #[.pointer none, .int .i64 r] w fun e w' => ∃ H u, e = .returned (.tuple #[.agg (bvs H).toArray, u, .bool false]) ∧ H.length = 32 ∧ Rd w' (fun b => w.heap.size ≤ b) u (tx []) ∧ Below w.heap.size w w' := by
  have b4 := Blk.new' w 41 (zs8 32)
  have hB0 : Below w.heap.size w (w.alloc (.cells (zs8 32).toArray 41)) := (Below.refl _ _).alloc (Nat.le_refl _) _
  have hl : (zs8 32).length = 32 := by simp [zs8]
  have ho : ∀ v ∈ zs8 32, v.oneCell' = true := by rw [zs_bvs]; exact oneCell_bvs _
  have hbl := bldHz18
  have He : Hid (zs8 32 = bvs (List.replicate 32 0)) := hid zs_bvs
  obtain ⟨l, hle⟩ : ∃ l, l = zs8 32 := ⟨_, rfl⟩
  have hz : (Tryd.prog.info? 41).map (·.zero) = some (some (.agg l.toArray)) := by rw [hle]; exact zero25
  rw [← hle] at b4 hB0 hl ho hbl He
  clear hle
  go_enter Tryd.func12, Tryd.ntmps12
  go_wp2_with (first | (refine wp_new 41 rfl rfl hz ?_; refine wp_stop ?_))
  refine wp_go ?_
  go_wp2_with (first | refine wp_bld 41 [] rfl rfl [] rfl hbl ?_ | (refine wp_st 41 (.tmp 4) (.tmp 11) rfl rfl rfl (f := 0) rfl (l := l) rfl b4 (by omega) (by rw [hl]; exact size25) ho ?_; intro w4 k4 G4; refine wp_stop ?_))
  rw [set_all _ _ rfl] at k4
  have hB4 := hB0.grown G4 hB0.size (fun k hk => by injection hk with hk; omega)
  refine wp_go ?_
  go_wp2
  refine ret_ctt18 rfl rfl rfl rfl k4.whole Tryd.underlying41 rfl (by rw [hl]; exact size25) rfl ?_
  exact ⟨List.replicate 32 0, _, by rw [He.out]; rfl, by simp, rd_nil18 _ _, hB4⟩
set_option maxHeartbeats 2000000 in
theorem iaccepted18_nil (w : World) :
    Calls Tryd.prog 14 #[.pointer none] w fun e w' => ∃ (n : Int) (H : List UInt8) (u : Value), e = .returned (.tuple #[.int .i64 n, .agg (bvs H).toArray, u, .bool false]) ∧ H.length = 32 ∧ Rd w' (fun b => w.heap.size ≤ b) u (tx []) ∧ Below w.heap.size w w' := by
  have b4 := Blk.new' w 41 (zs8 32)
  have hB0 : Below w.heap.size w (w.alloc (.cells (zs8 32).toArray 41)) := (Below.refl _ _).alloc (Nat.le_refl _) _
  have hl : (zs8 32).length = 32 := by simp [zs8]
  have ho : ∀ v ∈ zs8 32, v.oneCell' = true := by rw [zs_bvs]; exact oneCell_bvs _
  have hbl := bldHz18
  have He : Hid (zs8 32 = bvs (List.replicate 32 0)) := hid zs_bvs
  obtain ⟨l, hle⟩ : ∃ l, l = zs8 32 := ⟨_, rfl⟩
  have hz : (Tryd.prog.info? 41).map (·.zero) = some (some (.agg l.toArray)) := by rw [hle]; exact zero25
  rw [← hle] at b4 hB0 hl ho hbl He
  clear hle
  go_enter Tryd.func14, Tryd.ntmps14
  go_wp2_with (first | (refine wp_new 41 rfl rfl hz ?_; refine wp_stop ?_))
  refine wp_go ?_
  go_wp2_with (first | refine wp_bld 41 [] rfl rfl [] rfl hbl ?_ | (refine wp_st 41 (.tmp 3) (.tmp 10) rfl rfl rfl (f := 0) rfl (l := l) rfl b4 (by omega) (by rw [hl]; exact size25) ho ?_; intro w4 k4 G4; refine wp_stop ?_))
  rw [set_all _ _ rfl] at k4
  have hB4 := hB0.grown G4 hB0.size (fun k hk => by injection hk with hk; omega)
  refine wp_go ?_
  go_wp2
  refine ret_tctt18 rfl rfl rfl rfl rfl k4.whole Tryd.underlying41 rfl (by rw [hl]; exact size25) rfl ?_
  exact ⟨0, List.replicate 32 0, _, by rw [He.out]; rfl, by simp, rd_nil18 _ _, hB4⟩
end Go.Proofs.YtmjpkdehkdpdpaaDoor
