/- I1: layer 12: the document's functions: Told, Named, reading. -/
import Derived.Test.YtijhicfegbaadaaDoorI0
import Derived.Test.YtijhicfegbaadaaDoorH1
import Derived.Test.YtijhicfegbaadaaDoorR2
import Derived.Test.YtijhicfegbaadaaDoorRB
import Derived.Test.YtijhicfegbaadaaDoorSA
namespace Go.V
open Go.RowKit
theorem named12_eq (p : ByteArray) : named12 p = (decide (1 ≤ p.size) && decide (p.size ≤ 16) && fromF 97 122 p) := rfl
end Go.V
namespace Go.Proofs.YtijhicfegbaadaaDoor
open Go.RowKit Go.V
theorem told12_any (v : Value) (ts : List UInt8) (F : Nat → Prop) (w : World) (ht : Rd w F v (bys ts)) (hm : ts.length ≤ 1000000000) :
    Calls Tryd.prog 16 #[v] w fun e w' => ∃ v', e = .returned v' ∧ NewB w w' v' (toldF ts) := by
  obtain ⟨A, c, rfl⟩ := ht.shape
  have hps := psz_bd ts.length
  go_enter Tryd.func16, Tryd.ntmps16
  go_wp2_with (fail)
  refine (reft_any _ ts F _ ht (by omega)).mono ?_
  rintro e w1 ⟨v1, rfl, ho1, hB1⟩
  obtain ⟨b, hb⟩ : ∃ b, b = packed ts.length ++ ts := ⟨_, rfl⟩
  have hbl : b.length = psz ts.length + ts.length := by rw [hb, List.length_append, length_packed]
  rw [← hb] at ho1
  have hTo : toldF ts = b ++ (shaF b).take 8 := by rw [hb]; rfl
  have Hb := hid hbl
  have HTo := hid hTo
  clear hb hTo hbl
  obtain ⟨A1, c1, rfl⟩ := own_shape ho1
  have hr1 := Rd.of_own ho1
  go_wp2_with (fail)
  refine (rsum_any _ b _ _ hr1 (by rw [Hb.out]; omega)).mono ?_
  rintro e w2 ⟨rfl, hB2⟩
  have hl32 := len_sha b
  obtain ⟨h, hh⟩ : ∃ h, h = shaF b := ⟨_, rfl⟩
  rw [← hh] at hl32 ⊢
  have HTo2 : Hid (toldF ts = b ++ h.take 8) := by show _ = _; rw [HTo.out, hh]
  clear hh HTo
  go_wp2_with (fail)
  refine (rbytes_any h _ hl32).mono ?_
  rintro e w3 ⟨v3, rfl, ho3, hB3⟩
  rw [hl32] at ho3
  obtain ⟨A3, c3, rfl⟩ := own_shape ho3
  have hr3 := Rd.of_own ho3
  obtain ⟨A4, m4, c4, hcut, hr4⟩ := hr3.cut_h slB 8 (by omega) (by omega)
  have hl8 : (h.take (8 : Int).toNat).length = 8 := by rw [List.length_take]; show min 8 h.length = 8; omega
  obtain ⟨h8, hh8⟩ : ∃ h8, h8 = h.take (8 : Int).toNat := ⟨_, rfl⟩
  rw [← hh8] at hr4 hl8
  have HTo3 : Hid (toldF ts = b ++ h8) := by show _ = _; rw [HTo2.out, hh8]; rfl
  have hB23 := hB2.trans (hB3.mono hB2.size)
  have ho1' := own_bel ho1 hB23
  have hm4 : m4 = 8 := by
    obtain ⟨A, c, e⟩ := hr4.shape
    injection e with _ e _
    omega
  subst hm4
  have hsr := hr4.src
  rw [hl8] at hsr
  have hbl : b.length ≤ 1000000100 := by rw [Hb.out]; omega
  have hb3 := hB1.trans (hB23.mono hB1.size)
  clear hh8 HTo2 hr3 hr4 ho3 hr1 ho1 hB2 hB3 hB23 hl32
  go_wp2_with (refine wp_app (.tmp 10) (.tmp 12) slB rfl rfl rfl ho1' rfl hsr (oneCell_bvs h8) (by simp only [maxLen]; omega) (by omega) hb3.size ?_; intro v5 w5 ho5 hG5 _; refine wp_stop ?_)
  have hB5 := hb3.grown hG5 hb3.size (fun k hk => (ho1'.lt k hk).1)
  refine wp_go ?_
  go_wp2
  go_ret
  refine ⟨v5, rfl, ?_, hB5⟩
  rw [HTo3.out, List.length_append, hl8, show bvs (b ++ h8) = bvs b ++ bvs h8 from by simp [bvs]]
  exact ho5
set_option maxRecDepth 100000 in
set_option maxHeartbeats 2000000 in
theorem named12_any (s : ByteArray) (w : World) (hs : s.size ≤ maxLen) :
    Calls Tryd.prog 12 #[.string s] w fun e w' => e = .returned (.bool (named12 s)) ∧ Below w.heap.size w w' := by
  have hps : s.size ≤ 9223372036854775807 := by simp [maxLen] at hs; omega
  obtain ⟨x, hx⟩ : ∃ x, x = named12 s := ⟨_, rfl⟩
  rw [← hx]
  have Hx := hid hx
  clear hx
  go_enter Tryd.func12, Tryd.ntmps12
  go_wp2
  go_loopw [3] (fun iv wr => ∃ i : Nat, i ≤ s.size ∧ iv = .int .i64 i ∧ Hid ((s.data.toList.take i).all (fun c => decide (97 ≤ c.toNat) && decide (c.toNat ≤ 122)) = true) ∧ wr = w) (fun i _ => s.size - (intOf i).toNat)
  case atStart => exact ⟨0, Nat.zero_le _, rfl, by show _ = _; rfl, rfl⟩
  case round =>
    obtain ⟨i, hi, rfl, hall, rfl⟩ := hrel
    by_cases hlt : i < s.size
    · have hI : (i : Int) < (s.size : Int) := by omega
      have hin1 : IntKind.i64.wrap ((i : Int) + 1) = (i : Int) + 1 := IntWalk.i64_in _ (by omega)
      by_cases h1 : 97 ≤ (s[i]'hlt).toNat
      · have d1 : decide (((s[i]'hlt).toNat : Int) < 97) = false := decide_eq_false (by omega)
        by_cases h2 : (s[i]'hlt).toNat ≤ 122
        · have d2 : decide ((122 : Int) < ((s[i]'hlt).toNat : Int)) = false := decide_eq_false (by omega)
          have Hn := hid (from_step (a := 97) (b := 122) hlt hall.out h1 h2)
          clear hall h1 h2
          go_wp2
          go_roundw
          case rel => exact ⟨i + 1, by omega, by go_num, Hn, trivial⟩
          case measure => simp [intOf]; omega
        · have d2 : decide ((122 : Int) < ((s[i]'hlt).toNat : Int)) = true := decide_eq_true (by omega)
          have Hr : Hid (x = false) := by show _ = _; rw [Hx.out, named12_eq, from_bad hlt (a := 97) (b := 122) (by omega), Bool.and_false]
          clear hall h1 h2
          go_wp2
          go_ret
          exact ⟨(by rw [Hr.out]; try rfl), Below.refl _ _⟩
      · have d1 : decide (((s[i]'hlt).toNat : Int) < 97) = true := decide_eq_true (by omega)
        have Hr : Hid (x = false) := by show _ = _; rw [Hx.out, named12_eq, from_bad hlt (a := 97) (b := 122) (by omega), Bool.and_false]
        clear hall h1
        go_wp2
        go_ret
        exact ⟨(by rw [Hr.out]; try rfl), Below.refl _ _⟩
    · have hi' : i = s.size := by omega
      subst hi'
      have hI : ¬ (s.size : Int) < (s.size : Int) := by omega
      have Hf : Hid (x = (decide (1 ≤ s.size) && decide (s.size ≤ 16))) := by show _ = _; rw [Hx.out, named12_eq, from_end hall.out, Bool.and_true]
      clear hall
      by_cases h1 : 1 ≤ s.size
      · have d1 : decide ((1 : Int) ≤ (s.size : Int)) = true := decide_eq_true (by omega)
        have Hr : Hid (x = decide ((s.size : Int) ≤ 16)) := by
          show _ = _
          rw [Hf.out, decide_eq_true h1]
          by_cases h2 : s.size ≤ 16
          · rw [decide_eq_true h2, decide_eq_true (by omega)]; rfl
          · rw [decide_eq_false h2, decide_eq_false (by omega)]; rfl
        clear h1
        go_wp2
        go_ret
        exact ⟨(by rw [Hr.out]; try rfl), Below.refl _ _⟩
      · have d1 : decide ((1 : Int) ≤ (s.size : Int)) = false := decide_eq_false (by omega)
        have Hr : Hid (x = false) := by show _ = _; rw [Hf.out, decide_eq_false h1]; rfl
        clear h1
        go_wp2
        go_ret
        exact ⟨(by rw [Hr.out]; try rfl), Below.refl _ _⟩
end Go.Proofs.YtijhicfegbaadaaDoor
