/- NF: layer 18: contract of an instance's winner. -/
import Derived.Test.YthbbpfnfnnmdnaaDoorNE
namespace Go.Proofs.YthbbpfnfnnmdnaaDoor
open Go.RowKit Go.V Go.Maps
/-- what a walk has found, in memory -/
def blO (k : Int) : Option (Int × List UInt8) → List Value
  | none => zBl
  | some x => csB k x.1 x.2
/-- a word that is kept: for what, of whom -/
def KyOK (f : KyG Tryd.prog 72 × Nat) : Prop := ∃ (k r : Int) (h : List UInt8), in64w k ∧ in64w r ∧ h.length = 32 ∧ f.1 = kyB k r h ∧ f.2 < 65536
theorem BR.ok {L : List Nv} {B : List (KyG Tryd.prog 72 × Nat)} (h : BR L B) (hu : (B.map (·.1)).Nodup) : ∀ f ∈ B, KyOK f := fun f hf => by
  obtain ⟨k, r, d, hk, hr, hd, he⟩ := h.ks f hf
  refine ⟨k, r, d, hk, hr, hd, he, ?_⟩
  have h1 := h.lt hk hr hd
  rw [← he, findS_uq hu hf] at h1
  exact h1
theorem blO_len {V : Vc} {k lo hi : Int} {D : List (KyG Tryd.prog 72 × Nat)} {o : Option (Int × List UInt8)} (h : Best V k lo hi D o) : (blO k o).length = 34 := by
  cases o with
  | none => simp [blO, zBl, csB, bvs]
  | some x => exact len_csB h.2.1
theorem blO_one (k : Int) (o : Option (Int × List UInt8)) : ∀ v ∈ blO k o, v.oneCell' = true := by
  cases o with
  | none => exact one_csB _ _ _
  | some x => exact one_csB _ _ _
theorem stepB_no {V : Vc} {k lo hi : Int} {o : Option (Int × List UInt8)} {k' r' : Int} {d' : List UInt8} {S : Nat} (h : ¬ ((k' = k ∧ lo ≤ r' ∧ r' ≤ hi) ∧ qOK V S = true ∧ (∀ x, o = some x → r' < x.1))) : stepB V k lo hi o k' r' d' S = o := if_neg h
theorem stepB_yes {V : Vc} {k lo hi : Int} {o : Option (Int × List UInt8)} {k' r' : Int} {d' : List UInt8} {S : Nat} (h : (k' = k ∧ lo ≤ r' ∧ r' ≤ hi) ∧ qOK V S = true ∧ (∀ x, o = some x → r' < x.1)) : stepB V k lo hi o k' r' d' S = some (r', d') := if_pos h
set_option maxRecDepth 100000 in
set_option maxHeartbeats 8000000 in
theorem winner18_any (p b0 b1 b2 : Nat) (uk : Value) (V : Vc) (slot : Int) (B : List (KyG Tryd.prog 72 × Nat)) (k lo hi : Int) (w : World) (hb : Blk w p 65 (iC uk V slot b0 b1 b2)) (hV : V.m < 65536) (hM : MpS sM w nob b2 B) (hB : ∀ f ∈ B, KyOK f) (hk : in64w k) :
    Calls Tryd.prog 22 #[.pointer (some ⟨p, 0, none⟩), .int .i64 k, .int .i64 lo, .int .i64 hi] w fun e w' => ∃ o, e = .returned (.tuple #[.agg (blO k o).toArray, .bool o.isSome]) ∧ Best V k lo hi B o ∧ Below w.heap.size w w' := by
  have hz34 : Hid (zBl.length = 34) := hid (by simp [zBl, csB, bvs])
  have hOK := hid hB
  have hisq := hid (fun S W h1 h2 => isq18_any p b0 b1 b2 uk V slot S W h1 hV h2)
  obtain ⟨cs, hcs⟩ : ∃ cs, cs = iC uk V slot b0 b1 b2 := ⟨_, rfl⟩
  have h7 : cs[7]? = some (.map (some b2)) := by rw [hcs]; rfl
  rw [← hcs] at hb hisq
  clear hcs hB hV
  have b8 := Blk.new' w 72 zBl
  have hB0 : Below w.heap.size w (w.alloc (.cells zBl.toArray 72)) := (Below.refl _ _).alloc (Nat.le_refl _) _
  have hs0 : (w.alloc (.cells zBl.toArray 72)).heap.size = w.heap.size + 1 := by simp
  have h7 := hid h7
  go_enter Tryd.func22, Tryd.ntmps22
  go_wp2_with (first | (refine wp_new 72 rfl rfl zeroBl18 ?_; refine wp_stop ?_) | go_in)
  obtain ⟨w0, hw0⟩ : ∃ x, x = w.alloc (.cells zBl.toArray 72) := ⟨_, rfl⟩
  rw [← hw0] at b8 hB0 hs0 ⊢
  clear hw0
  have hpl := hb.lt
  have hbl := hM.lt
  have hb := hb.below hB0
  have hM := hM.below hB0
  obtain ⟨g8, hg8⟩ : ∃ g, g = w.heap.size := ⟨_, rfl⟩
  rw [← hg8] at b8 ⊢
  have hg8w : w.heap.size ≤ g8 := by omega
  have hp8 : p ≠ g8 := by omega
  have hb8 : b2 ≠ g8 := by omega
  have c7 := hb.cellAt 7 _ h7.out
  refine wp_go ?_
  go_wp2_with (first | (at_range; refine wp_rangeS 63 22 (.tmp 16) rfl rfl Tryd.underlying63 rfl hM ?_; intro w2 hR2 hG2 hs2) | go_in)
  try go_frame
  obtain ⟨it, hit⟩ : ∃ it, it = w0.heap.size := ⟨_, rfl⟩
  rw [← hit] at hR2 ⊢
  have hb := hb.keep (hG2.block p hb.lt (fun e => by cases e))
  have b8 := b8.keep (hG2.block g8 b8.lt (fun e => by cases e))
  have hB2 : Below w.heap.size w w2 := hB0.grown hG2 hB0.size (fun k hk => by cases hk)
  have hp9 : p ≠ it := by omega
  have hb9 : b2 ≠ it := by omega
  have h89 : g8 ≠ it := by omega
  have hitw : w.heap.size ≤ it := by omega
  have hit2 : it < w2.heap.size := by omega
  clear hit hs2 hG2 hM c7 hB0 hg8 hs0
  go_loopw [9] (fun fv wr => ∃ (o : Option (Int × List UInt8)) (dn rs : List (KyG Tryd.prog 72 × Nat)), fv = .bool o.isSome ∧ RS sM wr nob b2 it dn rs ∧ Hid (Best V k lo hi dn o) ∧ Hid ((dn ++ rs).Perm B) ∧ Blk wr g8 72 (blO k o) ∧ Ch (fun x => x = g8 ∨ x = it) w2 wr) (fun _ wr => wr.rangeLeft b2 it)
  case atStart => exact ⟨none, [], B, rfl, hR2, hid (Best.nil V k lo hi), hid (List.Perm.refl _), b8, Ch.refl _ _⟩
  case round =>
    clear hR2 b8
    obtain ⟨o, dn, rs, rfl, hR, hBst, hPm, b8, hC⟩ := hrel
    have hb := hb.ch hC (fun h => h.elim hp8 hp9)
    have hitr : it < wr.heap.size := by have := hC.size; omega
    have hl34 := blO_len hBst.out
    have hone := blO_one k o
    go_wp2_with (first | (at_next; refine wp_nextS (.tmp 17) rfl rfl rfl hR (fun h => h) ?_ ?_) | go_in)
    · intro hrs
      subst hrs
      have hfin := hBst.out.perm ((by rw [List.append_nil] at hPm; exact hPm.out : dn.Perm B))
      obtain ⟨lo8, hlo8⟩ : ∃ l, l = blO k o := ⟨_, rfl⟩
      rw [← hlo8] at b8 hl34 hone
      have Hlo8 := hid hlo8
      clear hlo8
      go_wp2_with (first | refine wp_ld 72 (.tmp 8) rfl rfl rfl b8.whole Tryd.underlying72 rfl (by rw [hl34]; exact sizeBl18) ?_ | (refine wp_st 72 (.tmp 8) (.tmp 57) rfl rfl rfl (f := 0) rfl (l := lo8) rfl b8 (by omega) (by rw [hl34]; exact sizeBl18) hone ?_; intro w4 k8 G8; refine wp_stop ?_) | go_in)
      rw [set_all _ _ rfl] at k8
      have hBe := Ch.below_of hB2 (hC.grow G8 (fun k hk => .inl (.inl (by injection hk with hk; exact hk.symm)))) (fun x hx => by rcases hx with rfl | rfl; exact hg8w; exact hitw) hB2.size
      refine wp_go ?_
      go_wp2
      refine ret_cell1 rfl rfl rfl k8.whole Tryd.underlying72 rfl (by rw [hl34]; exact sizeBl18) rfl ?_
      exact ⟨o, by rw [Hlo8.out]; rfl, hfin, hBe⟩
    · intro f1 S rs' v3 w3 hpp hR3 hv hlt3 hG3 hs3 hen
      have hv : v3 = .int .u16 (S : Int) := hv
      subst hv
      have hPm3 : Hid ((dn ++ [(f1, S)] ++ rs').Perm B) := hid (by
        rw [List.append_assoc]
        exact (hpp.symm.append_left dn).trans hPm.out)
      obtain ⟨k', r', d', hk', hr', hd', he, hS⟩ := hOK.out (f1, S) (hPm3.out.mem_iff.1 (by simp))
      have he : f1 = kyB k' r' d' := he
      have hS : S < 65536 := hS
      subst he
      have hst := hid (hBst.out.step hk hk' hr' hd' (S := S))
      replace hen : (Instr.entry (.pointer (some ⟨it, 0, none⟩))).run Tryd.prog w3 = .ok (.tuple #[.agg (csB k' r' d').toArray, .int .u16 (S : Int)]) w3 := by
        have e1 : sM.kv (kyB k' r' d') = .agg (csB k' r' d').toArray := kyB_v hk' hr' hd'
        rw [← e1]
        exact hen
      have e0 : (csB k' r' d')[0]? = some (.int .i64 k') := rfl
      have e1 : (csB k' r' d')[1]? = some (.int .i64 r') := rfl
      have hlx := len_csB (k := k') (r := r') hd'
      have hox := one_csB k' r' d'
      obtain ⟨lx, hlxe⟩ : ∃ l, l = csB k' r' d' := ⟨_, rfl⟩
      rw [← hlxe] at hen e0 e1 hlx hox
      have Hlx := hid hlxe
      have Hox := hid hox
      have E0 := hid e0
      have E1 := hid e1
      have hb := hb.keep (hG3.block p hb.lt (fun e => by injection e with e; exact hp9 e))
      have b8 := b8.keep (hG3.block g8 b8.lt (fun e => by injection e with e; exact h89 e))
      have hC := hC.grow hG3 (fun k hk => .inl (.inr (by injection hk with hk; exact hk.symm)))
      have hit3 : it < w3.heap.size := by omega
      have h83 := b8.lt
      clear hlxe hox e0 e1 hpp hR hG3 hs3 hPm hBst
      go_wp2_with (first | (refine wp_newst 72 10 (.tmp 21) rfl rfl rfl rfl rfl rfl zeroBl18 (l := lx) rfl (by rw [hlx]; exact hz34.out) (by rw [hlx]; exact sizeBl18) Hox.out (by simp) ?_; intro w4 hq4 hB4 hs4; refine wp_stop ?_) | go_in)
      have hb := hb.below hB4
      have b8 := b8.below hB4
      have hC := hC.belowR hB4
      have hR4 := RS.keep (F' := nob) hR3 (hB4.block b2 hR3.owns.lt) (hB4.block it hit3) (fun x hx h => h.elim)
      have hlq : w4.rangeLeft b2 it < wr.rangeLeft b2 it := by rw [hR4.2]; exact hlt3
      have hR4 := hR4.1
      obtain ⟨g10, hg10⟩ : ∃ g, g = w3.heap.size := ⟨_, rfl⟩
      have h10 : g8 < g10 := by omega
      rw [← hg10] at hq4 ⊢
      have hgi : it < g10 := by omega
      have c0 := hq4.cellAt 0 _ E0.out
      have c1 := hq4.cellAt 1 _ E1.out
      have hitx : it < w4.heap.size := by omega
      clear hen hR3 hB4 hs4 hlt3 hg10 hit3
      refine wp_go ?_
      by_cases q1 : k' = k
      · have Q1 : (k' == k) = true := by rw [q1]; simp
        have HQ1 := hid q1
        clear q1
        by_cases q2 : lo ≤ r'
        · have Q2 : decide (r' ≥ lo) = true := decide_eq_true q2
          have HQ2 := hid q2
          clear q2
          by_cases q3 : r' ≤ hi
          · have Q3 : decide (r' ≤ hi) = true := decide_eq_true q3
            have HQ3 := hid q3
            clear q3
            go_wp2_with (fail)
            refine (hisq.out S _ hb hS).mono ?_
            rintro e w5 ⟨rfl, hB5⟩
            have b8 := b8.below hB5
            have hs5 := hB5.size
            have hq4 := hq4.below hB5
            have hC := hC.belowR hB5
            have hit4 : it < w4.heap.size := hitx
            have hR5 := RS.keep (F' := nob) hR4 (hB5.block b2 hR4.owns.lt) (hB5.block it hit4) (fun x hx h => h.elim)
            have hlq : w5.rangeLeft b2 it < wr.rangeLeft b2 it := by rw [hR5.2]; exact hlq
            have hR4 := hR5.1
            have c1 := hq4.cellAt 1 _ E1.out
            obtain ⟨qq, hqq⟩ : ∃ q, q = qOK V S := ⟨_, rfl⟩
            rw [← hqq]
            have HQ := hid hqq
            clear hqq hB5 hR5 c0 hb
            cases qq with
            | false =>
              go_wp2
              go_roundw
              case rel => exact ⟨o, _, _, rfl, hR4, hid (by have := hst.out; rw [stepB_no (fun h => by have := h.2.1; rw [← HQ.out] at this; cases this)] at this; exact this), hPm3, b8, hC⟩
              case measure => exact hlq
            | true =>
              cases o with
              | none =>
                go_wp2_with (first | refine wp_ld 72 (.tmp 10) rfl rfl rfl hq4.whole Tryd.underlying72 rfl (by rw [hlx]; exact sizeBl18) ?_ | (refine wp_st 72 (.tmp 8) (.tmp 56) rfl rfl rfl (f := 0) rfl (l := lx) rfl b8 (by rw [hlx, hl34]; omega) (by rw [hlx]; exact sizeBl18) Hox.out ?_; intro w6 k8 G8; refine wp_stop ?_) | go_in)
                rw [set_all _ _ (by rw [hlx, hl34]), Hlx.out] at k8
                have hit5 : it < w5.heap.size := by omega
                have hR6 := RS.keep (F' := nob) hR4 (G8.block b2 hR4.owns.lt (fun e => by injection e with e; exact hb8 e)) (G8.block it hit5 (fun e => by injection e with e; exact h89 e.symm)) (fun x hx h => h.elim)
                have hlq : w6.rangeLeft b2 it < wr.rangeLeft b2 it := by rw [hR6.2]; exact hlq
                have hC := hC.grow G8 (fun k hk => .inl (.inl (by injection hk with hk; exact hk.symm)))
                have hR4 := hR6.1
                clear hR6 G8 b8
                refine wp_go ?_
                go_wp2
                go_roundw
                case rel => exact ⟨some (r', d'), _, _, rfl, hR4, hid (by have := hst.out; rw [stepB_yes ⟨⟨HQ1.out, HQ2.out, HQ3.out⟩, HQ.out.symm, fun x hx => by cases hx⟩] at this; exact this), hPm3, (by have := k8; rw [HQ1.out] at this; exact this), hC⟩
                case measure => exact hlq
              | some x =>
                obtain ⟨r0, d0⟩ := x
                have c8 := b8.cellAt 1 (.int .i64 r0) rfl
                by_cases q4 : r' < r0
                · have Q4 : decide (r' < r0) = true := decide_eq_true q4
                  have HQ4 := hid q4
                  clear q4
                  go_wp2_with (first | refine wp_ld 72 (.tmp 10) rfl rfl rfl hq4.whole Tryd.underlying72 rfl (by rw [hlx]; exact sizeBl18) ?_ | (refine wp_st 72 (.tmp 8) (.tmp 56) rfl rfl rfl (f := 0) rfl (l := lx) rfl b8 (by rw [hlx, hl34]; omega) (by rw [hlx]; exact sizeBl18) Hox.out ?_; intro w6 k8 G8; refine wp_stop ?_) | go_in)
                  rw [set_all _ _ (by rw [hlx, hl34]), Hlx.out] at k8
                  have hit5 : it < w5.heap.size := by omega
                  have hR6 := RS.keep (F' := nob) hR4 (G8.block b2 hR4.owns.lt (fun e => by injection e with e; exact hb8 e)) (G8.block it hit5 (fun e => by injection e with e; exact h89 e.symm)) (fun x hx h => h.elim)
                  have hlq : w6.rangeLeft b2 it < wr.rangeLeft b2 it := by rw [hR6.2]; exact hlq
                  have hC := hC.grow G8 (fun k hk => .inl (.inl (by injection hk with hk; exact hk.symm)))
                  have hR4 := hR6.1
                  clear hR6 G8 b8
                  refine wp_go ?_
                  go_wp2
                  go_roundw
                  case rel => exact ⟨some (r', d'), _, _, rfl, hR4, hid (by have := hst.out; rw [stepB_yes ⟨⟨HQ1.out, HQ2.out, HQ3.out⟩, HQ.out.symm, fun x hx => by injection hx with hx; subst hx; exact HQ4.out⟩] at this; exact this), hPm3, (by have := k8; rw [HQ1.out] at this; exact this), hC⟩
                  case measure => exact hlq
                · have Q4 : decide (r' < r0) = false := decide_eq_false q4
                  have HQ4 := hid q4
                  clear q4
                  go_wp2
                  go_roundw
                  case rel => exact ⟨some (r0, d0), _, _, rfl, hR4, hid (by have := hst.out; rw [stepB_no (fun h => by have h1 : r' < r0 := h.2.2 _ rfl; have h2 := HQ4.out; omega)] at this; exact this), hPm3, b8, hC⟩
                  case measure => exact hlq
          · have Q3 : decide (r' ≤ hi) = false := decide_eq_false q3
            have HQ3 := hid q3
            clear q3
            go_wp2
            go_roundw
            case rel => exact ⟨o, _, _, rfl, hR4, hid (by have := hst.out; rw [stepB_no (fun h => HQ3.out h.1.2.2)] at this; exact this), hPm3, b8, hC⟩
            case measure => exact hlq
        · have Q2 : decide (r' ≥ lo) = false := decide_eq_false q2
          have HQ2 := hid q2
          clear q2
          go_wp2
          go_roundw
          case rel => exact ⟨o, _, _, rfl, hR4, hid (by have := hst.out; rw [stepB_no (fun h => HQ2.out h.1.2.1)] at this; exact this), hPm3, b8, hC⟩
          case measure => exact hlq
      · have Q1 : (k' == k) = false := by rw [beq_eq_false_iff_ne]; exact q1
        have HQ1 := hid q1
        clear q1
        go_wp2
        go_roundw
        case rel => exact ⟨o, _, _, rfl, hR4, hid (by have := hst.out; rw [stepB_no (fun h => HQ1.out h.1.1)] at this; exact this), hPm3, b8, hC⟩
        case measure => exact hlq
end Go.Proofs.YthbbpfnfnnmdnaaDoor
