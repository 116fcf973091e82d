/- I8: layer 12: SnapsSave. -/
import Derived.Test.YtijhicfegbaadaaDoorI3
import Derived.Test.YtijhicfegbaadaaDoorI7
namespace Go.V
open Go.RowKit
theorem dN_room {x : Nat} (h : x < 65536) : (⟨roomF (x : Int), [], [], -1, false⟩ : Dk) = dN (x : Int) := by
  unfold roomF dN
  rw [if_neg (by omega), if_neg (by omega)]
theorem dN_sm {x : Int} (h : 0 ≤ x ∧ x ≤ 1048576) : DkSm (dN x) := ⟨by simp [dN], by simp [dN, tot, totA], ⟨by show 0 ≤ x; omega, by show x ≤ _; omega⟩, by simp [dN]⟩
theorem szW_new (n : ByteArray) (b : List UInt8) (x : Int) : (szA (snW n b) (nowF (dN x)) : Int) = (b.length : Int) := by
  have : nowF (dN x) = [] := rfl
  rw [this]
  unfold szA
  simp [snW]
end Go.V
namespace Go.Proofs.YtijhicfegbaadaaDoor
open Go.RowKit Go.V
set_option maxRecDepth 100000 in
set_option maxHeartbeats 8000000 in
theorem snapsSave_law (n : ByteArray) (t : List UInt8) (x : Nat) (vt : Value) (F : Nat → Prop) (w : World) (hK : KS w) (hnm : n.size ≤ maxLen) (hx : x < 65536) (ht : Rd w F vt (bys t)) :
    Calls Tryd.prog 4 #[.string n, vt, .int .u16 (x : Int)] w fun e w' => e = .returned (.bool true) ∧ Below w.heap.size w w' := by
  obtain ⟨At, ct, rfl⟩ := ht.shape
  have hcv : IntKind.i64.wrap (x : Int) = (x : Int) := IntWalk.i64_in _ (by omega)
  have hbs : ∀ W : World, (Instr.buildSlice 22 0 #[]).run Tryd.prog W = .ok (.slice (some ⟨W.heap.size, 0, none⟩) 0 0) (W.alloc (.cells #[] 5)) := fun W => by kernel_rfl
  have Hbs := hid hbs
  clear hbs
  go_enter Tryd.func4, Tryd.ntmps4
  go_wp2_with (fail)
  refine (wakes12_any _ hK).mono ?_
  rintro e w1 ⟨rfl, hB1⟩
  by_cases hlt : t.length ≤ 3000
  case neg =>
    have h2 : (3000 : Int) < (t.length : Int) := by omega
    go_wp2
    go_ret
    exact ⟨rfl, hB1⟩
  have h2 : ¬ (3000 : Int) < (t.length : Int) := by omega
  by_cases hln : n.size ≤ 30
  case neg =>
    have h3 : (30 : Int) < (n.size : Int) := by omega
    go_wp2
    go_ret
    exact ⟨rfl, hB1⟩
  have h3 : ¬ (30 : Int) < (n.size : Int) := by omega
  have htl := told_bd t
  go_wp2_with (fail)
  refine (new12 (x : Int) w _ hB1).mono ?_
  rintro e w2 ⟨xd, M, F0, rfl, hQ, hB2⟩
  rw [dN_room hx] at hQ
  have hS : SN (dN (x : Int)) 0 0 (fun _ => none) := SN.new (x : Int) (by omega)
  clear hB2
  go_wp2_with (first | (refine wp_bs0 22 5 rfl rfl Hbs.out ?_; intro v3 w3 ho3 hB3; refine wp_stop ?_))
  have hQ3 := hQ.below hB3
  have hM3 : ∀ y, M y → y < w2.heap.size := fun y e => hQ.i.bd y (.inl e)
  have hsr3 := (hQ3.rd ht).src
  have hs3 := hB3.size
  refine wp_go ?_
  go_wp2_with (refine wp_app (.tmp 28) (.tmp 29) slB rfl rfl rfl ho3 rfl hsr3 (oneCell_bvs t) (by simp only [maxLen]; omega) (by omega) hs3 ?_; intro v4 w4 ho4 hG4 _; refine wp_stop ?_)
  rw [List.nil_append, Nat.zero_add] at ho4
  have hB4 := hB3.grown hG4 hs3 (fun k hk => (ho3.lt k hk).1)
  have hQ4 := hQ.below hB4
  have hr4 := Rd.of_own ho4
  obtain ⟨A4, c4, rfl⟩ := own_shape ho4
  have hsave := save12_any _ M F0 _ _ 0 0 _ n t _ w4 (hQ4.ks hK) hQ4.i hS (by omega) (by omega) (by omega) (by omega) hr4 (fun y e e2 => by have e : w2.heap.size ≤ y := e; have := hM3 y e2; omega) (fun e => absurd (hQ4.M _ e) (Nat.not_le_of_lt hK.lt))
  obtain ⟨T, hT⟩ : ∃ T, T = toldF t := ⟨_, rfl⟩
  rw [← hT] at hsave htl
  have HT := hid hT
  clear hQ hQ3 hsr3 ho3 hB3 hs3 hG4 hr4 ho4 hM3 hB4 hT
  by_cases hnn : named12 n = true
  · by_cases hfit : x < T.length
    · have hsv : saveR (dN (x : Int)) n T = (dN (x : Int), 4) := by
        unfold saveR
        rw [if_neg (by rw [hnn]; simp), if_pos]
        rw [szW_new]
        show (x : Int) < _
        omega
      rw [hsv] at hsave
      have Hs := hid hsave
      clear hsave hsv
      refine wp_go ?_
      go_wp2_with (fail)
      refine Hs.out.mono ?_
      rintro e w5 ⟨rfl, hp⟩
      obtain ⟨M5, F5, hQ5, _⟩ := hQ4.mk' hp
      have hQ5 : QX w w5 (.pointer (some ⟨xd, 0, none⟩)) M5 F5 (dN (x : Int)) := hQ5
      have hl := load12_ok w _ M5 F5 _ n none w5 hK hQ5 (dN_sm (by omega)) rfl (by omega) rfl (fun b e => by cases e)
      rw [load_none hnn] at hl
      have Hl := hid hl
      clear hl hp hQ4 Hs
      go_wp2_with (fail)
      refine Hl.out.mono ?_
      rintro e w6 ⟨vl, rfl, hvl, hB6⟩
      obtain ⟨Al, cl, rfl⟩ := hvl.shape
      have hQ6 := hQ5.below hB6
      clear hvl Hl hQ5
      go_wp2_with (fail)
      refine (named12_any n _ hnm).mono ?_
      rw [hnn]
      rintro e w7 ⟨rfl, hB7⟩
      have hQ7 := hQ6.below hB7
      clear hQ6 hB7
      go_wp2_with (fail)
      refine (told12_any _ t _ _ (hQ7.rd ht) (by omega)).mono ?_
      rintro e w8 ⟨v8, rfl, ho8, hB8⟩
      rw [← HT.out] at ho8
      obtain ⟨A8, c8, rfl⟩ := own_shape ho8
      have hI : (x : Int) < (T.length : Int) := by omega
      have hQ8 := hQ7.below hB8
      clear ho8 hfit
      go_wp2
      go_ret
      exact ⟨rfl, hQ8.B⟩
    · have hroom : ((0 : Nat) : Int) + T.length ≤ (dN (x : Int)).room := by show ((0 : Nat) : Int) + T.length ≤ (x : Int); omega
      obtain ⟨hsv, _, hS5⟩ := hS.saved hnn hroom
      rw [hsv] at hsave
      have Hs := hid hsave
      clear hsave hsv hroom
      refine wp_go ?_
      go_wp2_with (fail)
      refine Hs.out.mono ?_
      rintro e w5 ⟨rfl, hp⟩
      obtain ⟨M5, F5, hQ5, _⟩ := hQ4.mk' hp
      obtain ⟨D5, hD5⟩ : ∃ D, D = saveD (dN (x : Int)) n T := ⟨_, rfl⟩
      have hQ5 : QX w w5 (.pointer (some ⟨xd, 0, none⟩)) M5 F5 D5 := by rw [hD5]; exact hQ5
      rw [← hD5] at hS5
      have hf : findF (nowF D5) n = some T := by rw [hS5.now, hS5.fs]; exact if_pos rfl
      have hsm := hS5.sm (by omega) (by omega)
      have hl := load12_ok w _ M5 F5 _ n (some T) w5 hK hQ5 hsm hS5.cm.2 (by omega) hf (fun b e => by injection e with e; rw [← e]; omega)
      rw [HT.out, load_told hnn (by omega)] at hl
      have Hl := hid hl
      clear hl hp hQ4 Hs hD5
      go_wp2_with (fail)
      refine Hl.out.mono ?_
      rintro e w6 ⟨vl, rfl, hvl, hB6⟩
      obtain ⟨Al, cl, rfl⟩ := hvl.shape
      have hQ6 := hQ5.below hB6
      have hvl6 := hvl.weak (F' := fun _ => True) (fun _ _ _ => trivial)
      clear hvl Hl hQ5
      go_wp2_with (fail)
      refine (named12_any n _ hnm).mono ?_
      rw [hnn]
      rintro e w7 ⟨rfl, hB7⟩
      have hQ7 := hQ6.below hB7
      have hvl7 := hvl6.below hB7
      clear hQ6 hB7 hvl6
      go_wp2_with (fail)
      refine (told12_any _ t _ _ (hQ7.rd ht) (by omega)).mono ?_
      rintro e w8 ⟨v8, rfl, ho8, hB8⟩
      rw [← HT.out] at ho8
      obtain ⟨A8, c8, rfl⟩ := own_shape ho8
      have hI : ¬ (x : Int) < (T.length : Int) := by omega
      have hQ8 := hQ7.below hB8
      have hvl8 := hvl7.below hB8
      have hrd := read10_any _ M5 F5 D5 n _ hQ8.i hsm hnm
      rw [hf] at hrd
      have Hrd := hid hrd
      clear ho8 hfit hvl7 hQ7 hrd
      go_wp2_with (fail)
      refine Hrd.out.mono ?_
      rintro e w9 ⟨v9, rfl, hv9, hB9⟩
      have hv9 : Rd w9 (fun b => w8.heap.size ≤ b) v9 (bys T) := hv9
      obtain ⟨A9, c9, rfl⟩ := hv9.shape
      have hQ9 := hQ8.below hB9
      have hvl9 := hvl8.below hB9
      have ht9 := hQ9.rd ht
      clear Hrd hQ8 hvl8
      go_wp2_with (fail)
      refine (same_b _ _ t t _ _ _ hvl9 ht9).mono ?_
      rw [decide_eq_true rfl]
      rintro e w10 ⟨rfl, hB10⟩
      have hQ10 := hQ9.below hB10
      have hv10 := hv9.below hB10
      clear hQ9 hv9 hvl9 ht9
      go_wp2_with (fail)
      refine (told12_any _ t _ _ (hQ10.rd ht) (by omega)).mono ?_
      rintro e w11 ⟨v11, rfl, ho11, hB11⟩
      rw [← HT.out] at ho11
      obtain ⟨A11, c11, rfl⟩ := own_shape ho11
      have hr11 := Rd.of_own ho11
      have hQ11 := hQ10.below hB11
      have hv11 := hv10.below hB11
      clear hQ10 hv10 ho11
      go_wp2_with (fail)
      refine (same_b _ _ T T _ _ _ hv11 hr11).mono ?_
      rw [decide_eq_true rfl]
      rintro e w12 ⟨rfl, hB12⟩
      have hQ12 := hQ11.below hB12
      have hpe := pending10_any _ M5 F5 D5 _ hQ12.i hsm
      rw [hS5.e] at hpe
      have Hpe := hid hpe
      clear hQ11 hv11 hr11 hpe
      go_wp2_with (fail)
      refine Hpe.out.mono ?_
      rintro e w13 ⟨rfl, hB13⟩
      go_wp2
      go_ret
      exact ⟨rfl, (hQ12.below hB13).B⟩
  · have hnn : named12 n = false := by simpa using hnn
    have hsv : saveR (dN (x : Int)) n T = (dN (x : Int), 15) := if_pos hnn
    rw [hsv] at hsave
    have Hs := hid hsave
    clear hsave hsv
    refine wp_go ?_
    go_wp2_with (fail)
    refine Hs.out.mono ?_
    rintro e w5 ⟨rfl, hp⟩
    obtain ⟨M5, F5, hQ5, _⟩ := hQ4.mk' hp
    have hQ5 : QX w w5 (.pointer (some ⟨xd, 0, none⟩)) M5 F5 (dN (x : Int)) := hQ5
    have hl := load12_ok w _ M5 F5 _ n none w5 hK hQ5 (dN_sm (by omega)) rfl (by omega) rfl (fun b e => by cases e)
    rw [load_bad hnn] at hl
    have Hl := hid hl
    clear hl hp hQ4 Hs
    go_wp2_with (fail)
    refine Hl.out.mono ?_
    rintro e w6 ⟨vl, rfl, hvl, hB6⟩
    obtain ⟨Al, cl, rfl⟩ := hvl.shape
    have hQ6 := hQ5.below hB6
    clear hvl Hl hQ5
    go_wp2_with (fail)
    refine (named12_any n _ hnm).mono ?_
    rw [hnn]
    rintro e w7 ⟨rfl, hB7⟩
    go_wp2
    go_ret
    exact ⟨rfl, (hQ6.below hB7).B⟩
end Go.Proofs.YtijhicfegbaadaaDoor
