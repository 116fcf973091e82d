/- W2: layer 6: contracts of package views: members, how many must agree, who leads. -/
import Derived.Test.YthibjdbjkkejeaaW1
import Derived.Test.YthibjdbjkkejeaaN2
namespace Go.V
open Go.RowKit
theorem mem_at (M : Nat) (k : Nat) (h : k < szM M) : ∃ x, (memL M 16)[k]? = some x ∧ x < 16 ∧ mbit M x = true := by
  refine ⟨_, List.getElem?_eq_getElem h, ?_⟩
  exact (mem_iff M 16 _).1 (List.getElem_mem h)
end Go.V
namespace Go.Proofs.Ythibjdbjkkejeaa
open Go.RowKit Go.V
/-- a new slice of ints, nothing else turned -/
def NewI (w w' : World) (v : Value) (l : List Nat) : Prop := w'.ownsRow w.heap.size 3 1 v l.length (ivs l) ∧ Below w.heap.size w w'
set_option maxHeartbeats 400000 in
theorem members_any (n : Int) (M : Nat) (w : World) (h : M < 65536) :
    Calls Try.prog 12 #[vw n M] w fun e w' => ∃ v', e = .returned v' ∧ NewI w w' v' (memL M 16) := by
  have hl := sz_le M
  have hsz := (size_any n M · h)
  have hhas := (fun (k : Nat) W hk => has_any n M (k : Int) W h (by omega) (hk : (k : Int) ≤ 9223372036854775807))
  unfold vw at hsz hhas ⊢
  have hb := Blk.new' w 24 [.int .i64 n, .int .u16 (M : Int)]
  have hB : Below w.heap.size w (w.alloc (.cells #[.int .i64 n, .int .u16 (M : Int)] 24)) := (Below.refl _ _).alloc (Nat.le_refl _) _
  have hs0 : (w.alloc (.cells #[.int .i64 n, .int .u16 (M : Int)] 24)).heap.size = w.heap.size + 1 := by simp
  go_enter Try.func12, Try.ntmps12
  go_wp2_with (fail)
  obtain ⟨w0, hw0⟩ : ∃ w0, w0 = w.alloc (.cells #[.int .i64 n, .int .u16 (M : Int)] 24) := ⟨_, rfl⟩
  rw [← hw0] at hb hB hs0 ⊢
  clear hw0
  obtain ⟨g, hg⟩ : ∃ g, g = w.heap.size := ⟨_, rfl⟩
  rw [← hg] at hb ⊢
  have Hg := hid hg
  have Hs0 := hid hs0
  clear hg hs0
  refine (hsz _).mono ?_
  rintro e w1 ⟨rfl, hB1⟩
  have hb1 := hb.below hB1
  have hB1' := hB.trans (hB1.mono hB.size)
  go_wp2_with (refine wp_mk0 slI rfl (.const (.int .i64 0)) (.tmp 6) rfl rfl (szM M) rfl rfl (by omega) (by simp [maxLen]; omega) ?_)
  intro w2 ho2 hB2
  have hb2 := hb1.below hB2
  have hB2' := hB1'.trans (hB2.mono hB1'.size)
  have hs1 := hB1.size
  go_wp2
  go_loopw [3, 8] (fun v' iv wr => ∃ k : Nat, k ≤ 16 ∧ iv = .int .i64 (k : Int) ∧ wr.ownsRow w0.heap.size 3 1 v' (memL M k).length (ivs (memL M k)) ∧ Blk wr g 24 [.int .i64 n, .int .u16 (M : Int)] ∧ Below w.heap.size w wr ∧ w0.heap.size ≤ wr.heap.size) (fun _ iv _ => 16 - (intOf iv).toNat)
  case atStart => exact ⟨0, by omega, rfl, own_weak ho2 hs1, hb2, hB2', by have := hB2.size; omega⟩
  case round =>
    obtain ⟨k, hk, rfl, ho, hbw, hBw, hsw⟩ := hrel
    have c0 := hbw.cellAt 0 _ rfl
    have c1 := hbw.cellAt 1 _ rfl
    by_cases h16 : k < 16
    · have hki : (k : Int) < 16 := by omega
      go_wp2_with (fail)
      refine (hhas k _ (by omega)).mono ?_
      rintro e w3 ⟨rfl, hB3⟩
      have hh : hasB M (k : Int) = mbit M k := by
        unfold hasB
        rw [decide_eq_true (by omega), Bool.true_and, Int.toNat_natCast]
      rw [hh]
      clear hh
      have hb3 := hbw.below hB3
      have hB3' := hBw.trans (hB3.mono hBw.size)
      have ho3 := own_bel ho hB3
      have hs3 := hB3.size
      have hml := mem_len_le M k
      have hms := mem_succ M k
      by_cases hm : mbit M k = true
      · rw [if_pos hm] at hms
        have Hms := hid hms
        clear hms
        go_wp2_with (refine wp_push (.tmp 14) (.tmp 15) 16 slI rfl rfl rfl rfl rfl rfl rfl rfl (by simp) rfl ho3 (by simp only [maxLen]; omega) (by omega) (by omega) ?_)
        intro v4 w4 ho4 hG4 _
        go_wp2
        rw [← ivs_snoc] at ho4
        have hb4 := hb3.keep (hG4.block g hb3.lt (by intro e; have := (ho3.lt _ e.symm).1; have := Hg.out; have := Hs0.out; omega))
        have hB4 := hB3'.grown hG4 hB3'.size (fun k hk => by have := (ho3.lt k hk).1; have := hB.size; omega)
        have hs4 := hG4.size
        go_roundw
        case rel =>
          refine ⟨k + 1, by omega, by go_num, ?_, hb4, hB4, by omega⟩
          rw [Hms.out, List.length_append]
          exact ho4
        case measure => simp [intOf]; omega
      · rw [if_neg hm, List.append_nil] at hms
        have Hms := hid hms
        clear hms
        have hm : mbit M k = false := by simpa using hm
        go_wp2
        go_roundw
        case rel => exact ⟨k + 1, by omega, by go_num, by rw [Hms.out]; exact ho3, hb3, hB3', by omega⟩
        case measure => simp [intOf]; omega
    · have hk16 : k = 16 := by omega
      subst hk16
      go_wp2
      go_ret
      exact ⟨_, rfl, own_weak ho (by have := Hs0.out; omega), hBw⟩
end Go.Proofs.Ythibjdbjkkejeaa
