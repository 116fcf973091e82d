/- S8: contracts of the document's ReadFixed, Word. -/
import Derived.Test.YtacjijhpbeegbaaDoorS7
import Derived.Test.YtacjijhpbeegbaaDoorR3
import Derived.Great.BuildSlice
namespace Go.Proofs.YtacjijhpbeegbaaDoor
open Go.RowKit Go.V

theorem nb4 (b : List UInt8) (i : Nat) : (be4 b i).toNat = nb b (4 * i) 4 := by
  have h := nb_lt b (4 * i) 4
  unfold be4
  rw [UInt32.toNat_ofNat']
  simp only [nb, Nat.add_zero] at h ⊢
  rw [Nat.mod_eq_of_lt (by omega)]
  omega
def klp : List (Nat × Operand) := (kl.zipIdx 0).map fun x => (x.2, .const (u32V x.1))
def klv : List (Nat × Value) := (kl.zipIdx 0).map fun x => (x.2, u32V x.1)
theorem klp_klv (a : Act) : (klp.map fun x => (x.1, a.eval x.2)) = klv := by simp [klp, klv, Function.comp_def, Act.eval]
theorem bldK : ∀ W : World, (Instr.build 109 klv.toArray).run Tryd.prog W = .ok (.agg (wvs kl).toArray) W := fun _ => by kernel_rfl
set_option maxRecDepth 100000 in
set_option maxHeartbeats 1000000 in
theorem word_any (i : Nat) (w : World) (hi : i < 64) :
    Calls Tryd.prog 55 #[.int .i64 (i : Int)] w fun e w' => e = .returned (.int .u32 ((kc i).toNat : Int)) ∧ Below w.heap.size w w' := by
  go_enter Tryd.func55, Tryd.ntmps55
  have hkc := hid (wvs_at kl i (kc i) (by
    unfold kc
    rw [List.getD_eq_getElem?_getD, List.getElem?_eq_getElem (by simpa [kl] using hi)]
    rfl))
  have hz := Blk.new' w 109 (zs32 64)
  have hB : Below w.heap.size w (w.alloc (.cells (zs32 64).toArray 109)) := (Below.refl _ _).alloc (Nat.le_refl _) _
  go_wp2_with (first | (refine wp_bld (o := ⟨some 4, .build 109 _, _, _, _, none⟩) 109 klp (by rfl) (by kernel_rfl) klv (klp_klv _) bldK ?_) | (refine wp_new 109 rfl rfl zero64 ?_) | (refine wp_st 109 (.tmp 3) (.tmp 4) rfl rfl rfl (f := 0) rfl (l := wvs kl) rfl hz (by simp [zs32, len_wvs, kl]) size64 (oneCell_wvs _) ?_; intro w7 hb7 hG7; rw [show (zs32 64).take 0 ++ wvs kl ++ (zs32 64).drop (0 + (wvs kl).length) = wvs kl from by simp [len_wvs, kl, zs32]] at hb7; have hc7 := hb7.cellAt i _ hkc.out; unfold u32V at hc7))
  go_ret
  exact ⟨rfl, hB.grown hG7 hB.size (by intro k hk; injection hk with hk; omega)⟩
end Go.Proofs.YtacjijhpbeegbaaDoor
