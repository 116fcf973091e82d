/- I2: layer 12: wakes; SnapsTwo. -/
import Derived.Test.YtijhicfegbaadaaDoorID
namespace Go.V
open Go.RowKit
theorem nm_s : named12 ⟨#[115]⟩ = true := by decide +kernel
theorem nm_one : named12 ⟨#[111, 110, 101]⟩ = true := by decide +kernel
theorem nm_two : named12 ⟨#[116, 119, 111]⟩ = true := by decide +kernel
end Go.V
namespace Go.Proofs.YtijhicfegbaadaaDoor
open Go.RowKit Go.V
theorem told_nil : ∃ T : List UInt8, toldF [] = 0 :: T ∧ T.length = 8 := by
  have e : packed ([] : List UInt8).length ++ [] = [0] := by decide
  refine ⟨(shaF [0]).take 8, ?_, ?_⟩
  · unfold toldF
    rw [e]
    rfl
  · rw [List.length_take, len_sha]; rfl
theorem new12 (x : Int) (w0 w : World) (hB : Below w0.heap.size w0 w) : Calls Tryd.prog 9 #[.int .i64 x] w fun e w' => ∃ xd M F, e = .returned (.pointer (some ⟨xd, 0, none⟩)) ∧ QX w0 w' (.pointer (some ⟨xd, 0, none⟩)) M F ⟨roomF x, [], [], -1, false⟩ ∧ Below w.heap.size w w' := by
  refine (new10_any x w).mono ?_
  rintro e w1 ⟨dv, M, F, rfl, hX, hB1, hMF⟩
  obtain ⟨xd, rfl⟩ := hX.ptr
  exact ⟨xd, M, F, rfl, ⟨hX, hB.trans (hB1.mono hB.size), fun b e => Nat.le_trans hB.size (hMF b (.inl e))⟩, hB1⟩
set_option maxRecDepth 100000 in
set_option maxHeartbeats 4000000 in
theorem wakes12_any (w : World) (hK : KS w) :
    Calls Tryd.prog 8 #[] w fun e w' => e = .returned (.bool true) ∧ Below w.heap.size w w' := by
  go_enter Tryd.func8, Tryd.ntmps8
  go_wp2_with (fail)
  refine (new12 100 w _ (Below.refl _ _)).mono ?_
  rintro e w1 ⟨xd, M, F, rfl, hQ, hB1⟩
  obtain ⟨D0, hD0⟩ : ∃ D, D = (⟨roomF 100, [], [], -1, false⟩ : Dk) := ⟨_, rfl⟩
  have hS : SN D0 0 0 (fun _ => none) := by rw [hD0]; exact SN.new (roomF 100) (by decide)
  have hr : D0.room = 100 := by rw [hD0]; rfl
  rw [← hD0] at hQ
  obtain ⟨T, hT, hTl⟩ := told_nil
  have hTL : (toldF []).length = 9 := by rw [hT]; simp [hTl]
  clear hD0 hB1
  go_wp2_with (fail)
  refine (save12_ok w _ M F nob D0 0 0 _ ⟨#[115]⟩ [] (.slice none 0 0) _ hK hQ hS (by omega) (by omega) nm_s (by simp) (by rw [hTL, hr]; decide) (Rd.nil _ _) (fun _ e => e.elim)).mono ?_
  rintro e w2 ⟨rfl, M2, F2, D2, hQ2, hS2, hr2, hC2⟩
  have hsm := hS2.sm (by omega) (by rw [hTL]; omega)
  have hf : findF (nowF D2) ⟨#[115]⟩ = some (toldF []) := by rw [hS2.now, hS2.fs]; exact upd_same _ _ _
  have hrd := read10_any _ M2 F2 D2 ⟨#[115]⟩ _ hQ2.i hsm (by unfold maxLen; decide)
  rw [hf, hT] at hrd
  clear hQ hS hr hTL hC2
  go_wp2_with (fail)
  refine hrd.mono ?_
  rintro e w3 ⟨vb, rfl, hvb, hB3⟩
  have hvb : Rd w3 (fun b => w2.heap.size ≤ b) vb (bys (0 :: T)) := hvb
  obtain ⟨X, hXe⟩ : ∃ X, X = 0 :: T := ⟨_, rfl⟩
  rw [← hXe] at hvb
  have hXl : X.length = 9 := by rw [hXe]; simp [hTl]
  obtain ⟨A, c, rfl⟩ := hvb.shape
  have hsr := hvb.src
  obtain ⟨g, off, rfl, c0⟩ := hsr.2 0 (.int .u8 0) (by rw [hXe]; rfl)
  rw [hXl]
  rw [Nat.add_zero] at c0
  have hBB := hQ2.B.trans (hB3.mono hQ2.B.size)
  clear hrd hvb hT hTl hXe hXl hsr hQ2 hS2 hB3 hsm hf
  go_wp2
  go_ret
  exact ⟨rfl, hBB⟩
end Go.Proofs.YtijhicfegbaadaaDoor
