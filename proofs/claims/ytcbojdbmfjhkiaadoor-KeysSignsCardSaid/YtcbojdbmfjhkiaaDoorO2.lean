/- O2: layer 4: digits; contract of the document's Digits. -/
import Derived.Test.YtcbojdbmfjhkiaaDoorO1
namespace Go.V
open Go.RowKit
def ivs (l : List Nat) : List Value := l.map fun (n : Nat) => .int .i64 (n : Int)
theorem len_ivs (l : List Nat) : (ivs l).length = l.length := by simp [ivs]
theorem oneCell_ivs (l : List Nat) : ∀ u ∈ ivs l, u.oneCell' = true := by
  intro u hu
  simp [ivs] at hu
  obtain ⟨c, _, rfl⟩ := hu
  rfl
/-- the higher and the lower four bits of each byte -/
def nibF (h : List UInt8) : List Nat := h.flatMap fun b => [b.toNat / 16, b.toNat % 16]
/-- what they leave from 15 -/
def lackF : List UInt8 → Nat
  | [] => 0
  | b :: h => (15 - b.toNat / 16) + (15 - b.toNat % 16) + lackF h
def digF (h : List UInt8) : List Nat := nibF (h.take 16) ++ [lackF (h.take 16) / 256, lackF (h.take 16) / 16 % 16, lackF (h.take 16) % 16]
theorem len_nib (h : List UInt8) : (nibF h).length = 2 * h.length := by
  induction h with
  | nil => rfl
  | cons b h ih => simp only [nibF, List.flatMap_cons, List.length_append, List.length_cons, List.length_nil] at ih ⊢; omega
theorem lack_le (h : List UInt8) : lackF h ≤ 30 * h.length := by
  induction h with
  | nil => simp [lackF]
  | cons b h ih => simp only [lackF, List.length_cons]; omega
theorem len_dig (h : List UInt8) (hl : 16 ≤ h.length) : (digF h).length = 35 := by
  unfold digF
  rw [List.length_append, len_nib, List.length_take]
  simp
  omega
theorem lack_snoc (h : List UInt8) (b : UInt8) : lackF (h ++ [b]) = lackF h + (15 - b.toNat / 16) + (15 - b.toNat % 16) := by
  induction h with
  | nil => simp [lackF]
  | cons c h ih => simp only [List.cons_append, lackF, ih]; omega
theorem nib_snoc (h : List UInt8) (b : UInt8) : nibF (h ++ [b]) = nibF h ++ [b.toNat / 16, b.toNat % 16] := by simp [nibF]
theorem nib_lt (h : List UInt8) : ∀ n ∈ nibF h, n ≤ 15 := by
  intro n hn
  unfold nibF at hn
  obtain ⟨b, _, hb⟩ := List.mem_flatMap.1 hn
  have := b.toNat_lt
  simp at hb
  rcases hb with rfl | rfl <;> omega
theorem dig_le (h : List UInt8) : ∀ n ∈ digF h, n ≤ 15 := by
  intro n hn
  have hl := lack_le (h.take 16)
  have hl2 : (h.take 16).length ≤ 16 := List.length_take_le _ _
  unfold digF at hn
  rcases List.mem_append.1 hn with h1 | h1
  · exact nib_lt _ n h1
  · simp at h1
    rcases h1 with rfl | rfl | rfl <;> omega
theorem take_step (h : List UInt8) (i : Nat) (x : UInt8) (hx : h[i]? = some x) : h.take (i + 1) = h.take i ++ [x] := by
  obtain ⟨hi, he⟩ := List.getElem?_eq_some_iff.1 hx
  rw [List.take_succ_eq_append_getElem hi, he]
end Go.V
namespace Go.Proofs.YtcbojdbmfjhkiaaDoor
open Go.RowKit Go.V
theorem slI : SlT Tryd.prog 53 3 (.int .i64 0) 8 := .of Tryd.underlying53 (by kernel_rfl) rfl
theorem bs2I (x0 x1 : Int) : ∀ W : World, (Instr.buildSlice 53 2 #[(0, .int .i64 x0), (1, .int .i64 x1)]).run Tryd.prog W = .ok (.slice (some ⟨W.heap.size, 0, none⟩) 2 2) (W.alloc (.cells #[.int .i64 x0, .int .i64 x1] 3)) := fun _ => by kernel_rfl
theorem bs3I (x0 x1 x2 : Int) : ∀ W : World, (Instr.buildSlice 53 3 #[(0, .int .i64 x0), (1, .int .i64 x1), (2, .int .i64 x2)]).run Tryd.prog W = .ok (.slice (some ⟨W.heap.size, 0, none⟩) 3 3) (W.alloc (.cells #[.int .i64 x0, .int .i64 x1, .int .i64 x2] 3)) := fun _ => by kernel_rfl
set_option maxRecDepth 100000 in
set_option maxHeartbeats 1000000 in
theorem rdigits_any (h : List UInt8) (w : World) (hl : h.length = 32) :
    Calls Tryd.prog 43 #[.agg (bvs h).toArray] w fun e w' => ∃ v', e = .returned v' ∧ w'.ownsRow w.heap.size 3 1 v' 35 (ivs (digF h)) ∧ Below w.heap.size w w' := by
  have hb1 := Blk.new' w 23 (bvs h)
  have hB := (Below.refl w.heap.size w).alloc (Nat.le_refl _) (.cells (bvs h).toArray 23)
  have Hl := hid hl
  clear hl
  go_enter Tryd.func43, Tryd.ntmps43
  go_wp2_with (fail)
  obtain ⟨w0, hw0⟩ : ∃ w0, w0 = w.alloc (.cells (bvs h).toArray 23) := ⟨_, rfl⟩
  rw [← hw0] at hb1 hB ⊢
  clear hw0
  obtain ⟨g, hg⟩ : ∃ g, g = w.heap.size := ⟨_, rfl⟩
  have hgl := hb1.lt
  have h0 := World.ownsRow_nil w0 w0.heap.size 3 1
  rw [← hg] at hb1 hB ⊢
  have Hg := hid hg
  clear hg
  go_loopw [3, 4, 5] (fun ov sv iv wr => ∃ i : Nat, i ≤ 16 ∧ iv = .int .i64 i ∧ sv = .int .i64 ((lackF (h.take i) : Nat) : Int) ∧ wr.ownsRow w0.heap.size 3 1 ov (2 * i) (ivs (nibF (h.take i))) ∧ Below w0.heap.size w0 wr) (fun _ _ iv _ => 16 - (intOf iv).toNat)
  case atStart => exact ⟨0, by omega, rfl, rfl, h0, Below.refl _ _⟩
  case round =>
    obtain ⟨i, hi, rfl, rfl, ho, hB1⟩ := hrel
    have hbr := hb1.below hB1
    obtain ⟨s, hs⟩ : ∃ s, s = lackF (h.take i) := ⟨_, rfl⟩
    have hsl := lack_le (h.take i)
    have hsl2 : (h.take i).length ≤ i := List.length_take_le _ _
    rw [← hs] at hsl ⊢
    have Hs := hid hs
    clear hs
    have hbs := hB1.size
    by_cases hil : i < 16
    · obtain ⟨x, hx⟩ : ∃ x, h[i]? = some x := ⟨_, List.getElem?_eq_getElem (by rw [Hl.out]; omega)⟩
      have hcx := hbr.cellAt i _ (bvs_at _ _ _ hx)
      unfold byteV at hcx
      have hx256 := x.toNat_lt
      have Hx := hid hx
      clear hx
      go_wp2_with (with_reducible refine wp_at 25 rfl ?_)
      refine wp_on ?_
      have hst : Hid (ivs (nibF (h.take i)) ++ ivs [x.toNat / 16, x.toNat % 16] = ivs (nibF (h.take (i + 1)))) := by
        show _ = _
        rw [take_step h i x Hx.out, nib_snoc]
        simp [ivs]
      have hsm : Hid (lackF (h.take (i + 1)) = s + (15 - x.toNat / 16) + (15 - x.toNat % 16)) := by
        show _ = _
        rw [take_step h i x Hx.out, lack_snoc, Hs.out]
      refine wp_pushN (.tmp 22) 25 slI rfl rfl 2 [(0, .tmp 23), (1, .tmp 24)] rfl rfl rfl [(0, .int .i64 ((x.toNat : Int) / 16)), (1, .int .i64 ((x.toNat : Int) % 16))] (by rfl) (ivs [x.toNat / 16, x.toNat % 16]) (bs2I _ _) (oneCell_ivs _) (by simp) rfl ho (by simp only [maxLen, len_ivs, List.length_cons, List.length_nil]; omega) (by simp only [len_ivs, List.length_cons, List.length_nil]; omega) (by omega) ?_
      intro v3 w3 ho3 hG3 hat3
      rw [hst.out, len_ivs] at ho3
      have hB3 := hB1.grown hG3 hbs (fun k hk => (ho.lt k hk).1)
      go_wp2
      go_roundw
      case rel => exact ⟨i + 1, by omega, by go_num, congrArg (Value.int .i64) (by rw [hsm.out]; omega), by simpa [Nat.mul_add] using ho3, hB3⟩
      case measure => simp [intOf]; omega
    · have h16 : i = 16 := by omega
      subst h16
      have hdf : Hid (ivs (nibF (h.take 16)) ++ ivs [s / 256, s / 16 % 16, s % 16] = ivs (digF h)) := by
        show _ = _
        unfold digF
        rw [← Hs.out]
        simp [ivs]
      go_wp2_with (with_reducible refine wp_at 41 rfl ?_)
      refine wp_on ?_
      refine wp_pushN (.tmp 33) 41 slI rfl rfl 3 [(0, .tmp 35), (1, .tmp 38), (2, .tmp 40)] rfl rfl rfl [(0, .int .i64 ((s : Int) / 256)), (1, .int .i64 ((s : Int) / 16 % 16)), (2, .int .i64 ((s : Int) % 16))] (by rfl) (ivs [s / 256, s / 16 % 16, s % 16]) (bs3I _ _ _) (oneCell_ivs _) (by simp) rfl ho (by simp [maxLen, len_ivs]) (by simp [len_ivs]) (by omega) ?_
      intro v3 w3 ho3 hG3 hat3
      rw [hdf.out, len_ivs] at ho3
      have hB3 := hB1.grown hG3 hbs (fun k hk => (ho.lt k hk).1)
      have hB4 := hB.trans (hB3.mono (by have := Hg.out; omega))
      go_wp2
      go_ret
      exact ⟨_, rfl, own_base ho3 (by have := Hg.out; omega), by have := Hg.out; subst this; exact hB4⟩
end Go.Proofs.YtcbojdbmfjhkiaaDoor
