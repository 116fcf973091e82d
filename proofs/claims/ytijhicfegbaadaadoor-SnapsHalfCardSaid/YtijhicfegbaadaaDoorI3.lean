/- I3: layer 12: SnapsTwo. -/
import Derived.Test.YtijhicfegbaadaaDoorI2
namespace Go.V
open Go.RowKit
theorem upd_two (fl : ByteArray → Option (List UInt8)) (b1 b2 : List UInt8) : updF (updF fl ⟨#[111, 110, 101]⟩ b1) ⟨#[116, 119, 111]⟩ b2 ⟨#[111, 110, 101]⟩ = some b1 := by
  unfold updF
  rw [if_neg (by decide), if_neg (by decide), if_pos rfl]
theorem upd_one (fl : ByteArray → Option (List UInt8)) (b2 b3 : List UInt8) : updF (updF fl ⟨#[116, 119, 111]⟩ b2) ⟨#[111, 110, 101]⟩ b3 ⟨#[116, 119, 111]⟩ = some b2 := by
  unfold updF
  rw [if_neg (by decide), if_neg (by decide), if_pos rfl]
end Go.V
namespace Go.Proofs.YtijhicfegbaadaaDoor
open Go.RowKit Go.V
theorem told_bd (t : List UInt8) : (toldF t).length ≤ t.length + 18 := by
  have := psz_bd t.length
  rw [told_len]
  omega
set_option maxRecDepth 100000 in
set_option maxHeartbeats 4000000 in
theorem snapsTwo_law (a b : List UInt8) (tb : Bool) (va vb : Value) (F G : Nat → Prop) (w : World) (hK : KS w) (ha : Rd w F va (bys a)) (hb : Rd w G vb (bys b)) :
    Calls Tryd.prog 7 #[va, vb, .bool tb] w fun e w' => e = .returned (.bool true) ∧ Below w.heap.size w w' := by
  obtain ⟨Aa, ca, rfl⟩ := ha.shape
  obtain ⟨Ab, cb, rfl⟩ := hb.shape
  go_enter Tryd.func7, Tryd.ntmps7
  go_wp2_with (fail)
  refine (wakes12_any _ hK).mono ?_
  rintro e w1 ⟨rfl, hB1⟩
  by_cases hla : a.length ≤ 3000
  case neg =>
    have h1 : ¬ (a.length : Int) ≤ 3000 := by omega
    have h1' : (3000 : Int) < (a.length : Int) := by omega
    go_wp2
    go_ret
    exact ⟨rfl, hB1⟩
  by_cases hlb : b.length ≤ 3000
  case neg =>
    have h1 : ¬ (3000 : Int) < (a.length : Int) := by omega
    have h2 : (3000 : Int) < (b.length : Int) := by omega
    go_wp2
    go_ret
    exact ⟨rfl, hB1⟩
  have h1 : ¬ (3000 : Int) < (a.length : Int) := by omega
  have h2 : ¬ (3000 : Int) < (b.length : Int) := by omega
  have hta := told_bd a
  have htb := told_bd b
  go_wp2_with (fail)
  refine (new12 65536 w _ hB1).mono ?_
  rintro e w2 ⟨xd, M, F0, rfl, hQ, hB2⟩
  obtain ⟨D0, hD0⟩ : ∃ D, D = (⟨roomF 65536, [], [], -1, false⟩ : Dk) := ⟨_, rfl⟩
  have hS : SN D0 0 0 (fun _ => none) := by rw [hD0]; exact SN.new (roomF 65536) (by decide)
  have hr : D0.room = 65536 := by rw [hD0]; rfl
  rw [← hD0] at hQ
  clear hD0 hB2
  go_wp2_with (fail)
  refine (save12_ok w _ M F0 _ D0 0 0 _ ⟨#[111, 110, 101]⟩ a _ _ hK hQ hS (by omega) (by omega) nm_one (by omega) (by rw [hr]; omega) (hQ.rd ha) (fun y e e2 => by have e : y < w.heap.size := e; have := hQ.M y e2; omega)).mono ?_
  rintro e w3 ⟨rfl, M3, F3, D3, hQ3, hS3, hr3, _⟩
  clear hQ hS
  go_wp2_with (fail)
  refine (save12_ok w _ M3 F3 _ D3 _ _ _ ⟨#[116, 119, 111]⟩ b _ _ hK hQ3 hS3 (by omega) (by omega) nm_two (by omega) (by rw [hr3, hr]; omega) (hQ3.rd hb) (fun y e e2 => by have e : y < w.heap.size := e; have := hQ3.M y e2; omega)).mono ?_
  rintro e w4 ⟨rfl, M4, F4, D4, hQ4, hS4, hr4, _⟩
  clear hQ3 hS3
  cases tb with
  | false =>
    have hsm := hS4.sm (by omega) (by omega)
    have hf1 : findF (nowF D4) ⟨#[111, 110, 101]⟩ = some (toldF a) := by rw [hS4.now, hS4.fs]; exact upd_two _ _ _
    have hf2 : findF (nowF D4) ⟨#[116, 119, 111]⟩ = some (toldF b) := by rw [hS4.now, hS4.fs]; exact upd_same _ _ _
    have hl1 := load12_ok w _ M4 F4 D4 _ _ w4 hK hQ4 hsm hS4.cm.2 (by decide) hf1 (fun x e => by injection e with e; rw [← e]; omega)
    rw [load_told nm_one (by omega)] at hl1
    have Hl1 := hid hl1
    clear hl1
    go_wp2_with (fail)
    refine Hl1.out.mono ?_
    rintro e w5 ⟨vx, rfl, hvx, hB5⟩
    have hQ5 := hQ4.below hB5
    have hvx := hvx.weak (F' := fun _ => True) (fun _ _ _ => trivial)
    have hl2 := load12_ok w _ M4 F4 D4 _ _ w5 hK hQ5 hsm hS4.cm.2 (by decide) hf2 (fun x e => by injection e with e; rw [← e]; omega)
    rw [load_told nm_two (by omega)] at hl2
    have Hl2 := hid hl2
    clear hl2 Hl1
    go_wp2_with (fail)
    refine Hl2.out.mono ?_
    rintro e w6 ⟨vy, rfl, hvy, hB6⟩
    have hQ6 := hQ5.below hB6
    have hvx6 := hvx.below hB6
    have hvy6 := hvy.weak (F' := fun _ => True) (fun _ _ _ => trivial)
    have ha6 := hQ6.rd ha
    have hb6 := hQ6.rd hb
    clear hvx hvy Hl2 hsm hf1 hf2 hQ4 hQ5
    go_wp2_with (fail)
    refine (same_b _ _ a a _ _ _ hvx6 ha6).mono ?_
    rw [decide_eq_true rfl]
    rintro e w7 ⟨rfl, hB7⟩
    go_wp2_with (fail)
    refine (same_b _ _ b b _ _ _ (hvy6.below hB7) (hb6.below hB7)).mono ?_
    rw [decide_eq_true rfl]
    rintro e w8 ⟨rfl, hB8⟩
    go_wp2
    go_ret
    exact ⟨rfl, ((hQ6.below hB7).below hB8).B⟩
  | true =>
    go_wp2_with (fail)
    refine (save12_ok w _ M4 F4 _ D4 _ _ _ ⟨#[111, 110, 101]⟩ b _ _ hK hQ4 hS4 (by omega) (by omega) nm_one (by omega) (by rw [hr4, hr3, hr]; omega) (hQ4.rd hb) (fun y e e2 => by have e : y < w.heap.size := e; have := hQ4.M y e2; omega)).mono ?_
    rintro e w4' ⟨rfl, M4', F4', D4', hQ4', hS4', hr4', _⟩
    have hsm := hS4'.sm (by omega) (by omega)
    have hf1 : findF (nowF D4') ⟨#[111, 110, 101]⟩ = some (toldF b) := by rw [hS4'.now, hS4'.fs]; exact upd_same _ _ _
    have hf2 : findF (nowF D4') ⟨#[116, 119, 111]⟩ = some (toldF b) := by rw [hS4'.now, hS4'.fs]; exact upd_one _ _ _
    clear hQ4 hS4
    have hl1 := load12_ok w _ M4' F4' D4' _ _ w4' hK hQ4' hsm hS4'.cm.2 (by decide) hf1 (fun x e => by injection e with e; rw [← e]; omega)
    rw [load_told nm_one (by omega)] at hl1
    have Hl1 := hid hl1
    clear hl1
    go_wp2_with (fail)
    refine Hl1.out.mono ?_
    rintro e w5 ⟨vx, rfl, hvx, hB5⟩
    have hQ5 := hQ4'.below hB5
    have hvx := hvx.weak (F' := fun _ => True) (fun _ _ _ => trivial)
    have hl2 := load12_ok w _ M4' F4' D4' _ _ w5 hK hQ5 hsm hS4'.cm.2 (by decide) hf2 (fun x e => by injection e with e; rw [← e]; omega)
    rw [load_told nm_two (by omega)] at hl2
    have Hl2 := hid hl2
    clear hl2 Hl1
    go_wp2_with (fail)
    refine Hl2.out.mono ?_
    rintro e w6 ⟨vy, rfl, hvy, hB6⟩
    have hQ6 := hQ5.below hB6
    have hvx6 := hvx.below hB6
    have hvy6 := hvy.weak (F' := fun _ => True) (fun _ _ _ => trivial)
    have hb6 := hQ6.rd hb
    clear hvx hvy Hl2 hsm hf1 hf2 hQ4' hQ5
    go_wp2_with (fail)
    refine (same_b _ _ b b _ _ _ hvx6 hb6).mono ?_
    rw [decide_eq_true rfl]
    rintro e w7 ⟨rfl, hB7⟩
    go_wp2_with (fail)
    refine (same_b _ _ b b _ _ _ (hvy6.below hB7) (hb6.below hB7)).mono ?_
    rw [decide_eq_true rfl]
    rintro e w8 ⟨rfl, hB8⟩
    go_wp2
    go_ret
    exact ⟨rfl, ((hQ6.below hB7).below hB8).B⟩
end Go.Proofs.YtijhicfegbaadaaDoor
