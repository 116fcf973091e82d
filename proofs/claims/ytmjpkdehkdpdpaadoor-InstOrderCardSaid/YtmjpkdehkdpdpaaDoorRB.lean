/- RB: contract of the document's Bytes (a digest's bytes). -/
import Derived.Test.YtmjpkdehkdpdpaaDoorR2
import Derived.Test.YtmjpkdehkdpdpaaDoorVA
import Derived.Test.YtmjpkdehkdpdpaaDoorVH
namespace Go.Proofs.YtmjpkdehkdpdpaaDoor
open Go.RowKit Go.V
theorem rbytes_any (h : List UInt8) (w : World) (hl : h.length = 32) :
    Calls Tryd.prog 71 #[.agg (bvs h).toArray] w fun e w' => ∃ v', e = .returned v' ∧ NewB w w' v' h := by
  go_enter Tryd.func71, Tryd.ntmps71
  go_wp2
  have b0 : Blk (w.alloc (.cells (bvs h).toArray 41)) w.heap.size 41 (bvs h) := Blk.new' w 41 _
  have hB0 : Below w.heap.size w (w.alloc (.cells (bvs h).toArray 41)) := (Below.refl _ _).alloc (Nat.le_refl _) _
  go_loopw [3, 4] (fun v iv wr => ∃ i : Nat, i ≤ 32 ∧ iv = .int .i64 i ∧ wr.ownsRow (w.heap.size + 1) 5 1 v i (bvs (h.take i)) ∧ Blk wr w.heap.size 41 (bvs h) ∧ Below w.heap.size w wr) (fun _ iv _ => 32 - (intOf iv).toNat)
  case atStart => exact ⟨0, by omega, rfl, World.ownsRow_nil _ _ _ _, b0, hB0⟩
  case round =>
    obtain ⟨i, hi, rfl, ho, hb, hB⟩ := hrel
    by_cases hil : i < 32
    · obtain ⟨x, hx⟩ : ∃ x, h[i]? = some x := ⟨_, List.getElem?_eq_getElem (by omega)⟩
      have hcx := hb.cellAt i _ (bvs_at _ _ _ hx)
      unfold byteV at hcx
      have hih : i < h.length := by omega
      have hsn : Hid (bvs (h.take i) ++ [.int .u8 (x.toNat : Int)] = bvs (h.take (i + 1))) := by
        show _ = _
        rw [List.take_succ_eq_append_getElem hih]
        have : h[i] = x := by rw [List.getElem?_eq_getElem hih] at hx; injection hx
        rw [this]
        simp [bvs, byteV]
      clear hx hl
      have hbl := hb.lt
      go_wp2_with (refine wp_push (.tmp 9) (.tmp 12) 13 slB rfl rfl rfl rfl rfl (u := .int .u8 (x.toNat : Int)) rfl rfl rfl (by simp) rfl ho (by simp only [maxLen]; omega) (by omega) (by omega) ?_; intro v3 w3 ho3 hG3 _; refine wp_stop ?_)
      rw [hsn.out] at ho3
      have hB3 := hB.grown hG3 hB.size (fun k hk => by have := (ho.lt k hk).1; omega)
      have hb3 := hb.keep (hG3.block _ hb.lt (fun e => by have := (ho.lt _ e.symm).1; omega))
      refine wp_go ?_
      go_wp2
      go_roundw
      case rel => exact ⟨i + 1, by omega, by go_num, ho3, hb3, hB3⟩
      case measure => simp [intOf]; omega
    · have h32 : i = 32 := by omega
      subst h32
      rw [List.take_of_length_le (by omega)] at ho
      go_wp2
      go_ret
      refine ⟨_, rfl, ?_, hB⟩
      rw [hl]
      exact own_weak ho (by omega)
end Go.Proofs.YtmjpkdehkdpdpaaDoor
