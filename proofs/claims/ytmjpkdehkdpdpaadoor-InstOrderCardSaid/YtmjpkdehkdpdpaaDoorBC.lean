/- BC: bytes.Clone. -/
import Derived.Test.YtmjpkdehkdpdpaaDoorVA
import Derived.Test.YtmjpkdehkdpdpaaDoorR2
namespace Go.Proofs.YtmjpkdehkdpdpaaDoor
open Go.RowKit Go.V
set_option maxRecDepth 100000 in
set_option maxHeartbeats 2000000 in
theorem bclone_any (bs : List UInt8) (F : Nat → Prop) (v : Value) (w : World) (h : Rd w F v (bys bs)) (hb : bs.length ≤ 1000000000) :
    Calls Tryd.prog 21 #[v] w fun e w' => ∃ v', e = .returned v' ∧ w'.ownsRow w.heap.size 5 1 v' bs.length (bvs bs) ∧ Below w.heap.size w w' := by
  obtain ⟨A, c, rfl⟩ := h.shape
  have hsr := h.src
  cases A with
  | none =>
    obtain ⟨h0, h1⟩ := hsr.none0
    have h2 : Hid (bs = []) := List.eq_nil_of_length_eq_zero h0
    rw [h0]
    clear h h0 h1 hsr
    have hnil := fun W : World => (by kernel_rfl : (Go.binOp BinOp.eql 35 (.slice none 0 c) (.slice none 0 0)).run Tryd.prog W = .ok (.bool true) W)
    go_enter Tryd.func21, Tryd.ntmps21
    go_wp2
    go_ret
    exact ⟨_, rfl, by rw [h2.out]; exact World.ownsRow_nil _ _ _ _, Below.refl _ _⟩
  | some ad =>
    have hnil := fun W : World => (by kernel_rfl : (Go.binOp BinOp.eql 35 (.slice (some ad) bs.length c) (.slice none 0 0)).run Tryd.prog W = .ok (.bool false) W)
    have Hbs := hid (fun W : World => (by kernel_rfl : (Instr.buildSlice 35 0 #[]).run Tryd.prog W = .ok (.slice (some ⟨W.heap.size, 0, none⟩) 0 0) (W.alloc (.cells #[] 5))))
    go_enter Tryd.func21, Tryd.ntmps21
    go_wp2_with (first | (refine wp_bs0 35 5 rfl rfl Hbs.out ?_; intro v9 w9 ho9 hB9; have hsr9 := (h.below hB9).src) | (refine wp_app (.tmp 5) (.tmp 6) slB rfl rfl rfl ho9 rfl hsr9 (oneCell_bvs _) (by simp only [maxLen]; omega) (by omega) hB9.size ?_; intro v8 w8 ho8 hG8 _; refine wp_stop ?_) | go_in)
    have hB8 : Below w.heap.size w w8 := hB9.grown hG8 hB9.size (fun k hk => (ho9.lt k hk).1)
    rw [List.nil_append, Nat.zero_add] at ho8
    obtain ⟨A8, c8, rfl⟩ := own_shape ho8
    clear ho9 hB9 hG8 hsr hsr9 h
    refine wp_go ?_
    go_wp2
    go_ret
    exact ⟨_, rfl, ho8, hB8⟩
end Go.Proofs.YtmjpkdehkdpdpaaDoor
