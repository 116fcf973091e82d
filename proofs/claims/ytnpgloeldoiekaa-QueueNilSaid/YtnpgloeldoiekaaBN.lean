/- BN: layer 16: QueueNil. -/
import Derived.Test.YtnpgloeldoiekaaB4
import Derived.Test.YtnpgloeldoiekaaAV
namespace Go.Proofs.Ytnpgloeldoiekaa
open Go.RowKit Go.V
set_option maxRecDepth 100000 in
set_option maxHeartbeats 4000000 in
theorem queueNil_law (r : Rq) (u : Value) (F : Nat → Prop) (w : World) (hu : Rd w F u (bys r.g)) :
    Calls Try.prog 7 #[r.v u] w fun e w' => e = .returned (.bool true) ∧ Below w.heap.size w w' := by
  obtain ⟨Au, cu, rfl⟩ := Rd.shape hu
  have hadd := hid (fun (X : World) (h : Rd X F (.slice Au r.g.length cu) (bys r.g)) => (show Calls Try.prog 12 #[.pointer none, .agg (r.l (.slice Au r.g.length cu)).toArray] X (fun e w' => e = .returned (.int .i64 16) ∧ Below X.heap.size X w') from qadd16_nil r _ F X h))
  have hbat := hid (fun (X : World) => qbatch16_nil zR6 X rfl)
  have hdro := hid (fun (X : World) => qdrop16_nil zR6 X rfl)
  have hbr := bldR6
  have lrq : (r.l (.slice Au r.g.length cu)).length = 7 := rfl
  show Calls Try.prog 7 #[.agg (r.l (.slice Au r.g.length cu)).toArray] w _
  have b1 := Blk.new' w 32 (r.l (.slice Au r.g.length cu))
  have hB : Below w.heap.size w (w.alloc (.cells (r.l (.slice Au r.g.length cu)).toArray 32)) := (Below.refl _ _).alloc (Nat.le_refl _) _
  obtain ⟨lr, hlr⟩ : ∃ q, q = r.l (.slice Au r.g.length cu) := ⟨_, rfl⟩
  obtain ⟨la, hla⟩ : ∃ q, q = ras zR6 := ⟨_, rfl⟩
  rw [← hlr] at hadd b1 hB lrq ⊢
  rw [← hla] at hbat hdro hbr
  have Lrq := hid lrq
  clear hlr hla lrq
  have hu := hu.below hB
  go_enter Try.func7, Try.ntmps7
  go_wp2_with (first | refine wp_bld 37 [] rfl rfl [] rfl hbr ?_)
  refine (hdro.out _).mono ?_
  rintro e w1 ⟨rfl, hB1⟩
  have b1 := b1.below hB1
  have hu := hu.below hB1
  have hB := hB.trans (hB1.mono hB.size)
  obtain ⟨g1, hg1⟩ : ∃ g, g = w.heap.size := ⟨_, rfl⟩
  rw [← hg1] at b1 ⊢
  clear hg1 hB1
  go_wp2_with (fail)
  refine (wakes16_any _).mono ?_
  rintro e w2 ⟨rfl, hB2⟩
  have b1 := b1.below hB2
  have hu := hu.below hB2
  have hB := hB.trans (hB2.mono hB.size)
  go_wp2_with (first | refine wp_ldg 32 (.tmp 1) (by rfl) rfl rfl b1.whole Try.underlying32 rfl (by rw [Lrq.out]; exact sizeRq16) ?_)
  refine (hadd.out _ hu).mono ?_
  rintro e w3 ⟨rfl, hB3⟩
  have hB := hB.trans (hB3.mono hB.size)
  go_wp2_with (first | refine wp_bldw 37 [] (by rfl) rfl [] rfl hbr ?_)
  refine (hbat.out _).mono ?_
  rintro e w4 ⟨v4, rfl, hr4, hB4⟩
  have hB := hB.trans (hB4.mono hB.size)
  obtain ⟨A4, c4, rfl⟩ := rqs_shape hr4
  rw [List.length_nil]
  go_wp2_with (fail)
  refine (qall16_nil _).mono ?_
  rintro e w5 ⟨v5, rfl, hr5, hB5⟩
  have hB := hB.trans (hB5.mono hB.size)
  obtain ⟨A5, c5, rfl⟩ := rqs_shape hr5
  rw [List.length_nil]
  go_wp2_with (fail)
  refine (qlen16_nil _).mono ?_
  rintro e w6 ⟨rfl, hB6⟩
  have hB := hB.trans (hB6.mono hB.size)
  go_wp2
  go_ret
  exact ⟨rfl, hB⟩
end Go.Proofs.Ytnpgloeldoiekaa
