/- G3: layer 11: the law LogsNil. -/
import Derived.Test.YtcechioeolokcaaGreatDoorG2
namespace Go.V
open Go.RowKit
def okC (c : UInt8) : Bool := decide (97 ≤ c.toNat) && decide (c.toNat ≤ 122)
def okI (p : ByteArray) (i : Nat) : Bool := decide (1 ≤ p.size) && decide (p.size ≤ 8) && (p.toList.take i).all okC
theorem okI_0 (p : ByteArray) : okI p 0 = (decide (1 ≤ p.size) && decide (p.size ≤ 8)) := by unfold okI; simp
theorem okI_succ (p : ByteArray) (i : Nat) (h : i < p.size) : okI p (i + 1) = (okI p i && okC (p[i]'h)) := by
  have e : p.toList.take (i + 1) = p.toList.take i ++ [p[i]'h] := by
    rw [List.take_add_one, ByteArray.toList_eq]
    congr 1
    have hl : i < p.data.toList.length := by simpa using h
    rw [List.getElem?_eq_getElem hl]
    rfl
  unfold okI
  rw [e, List.all_append]
  simp [Bool.and_assoc]
theorem okI_end (p : ByteArray) : okI p p.size = okP p := by
  unfold okI okP
  rw [List.take_of_length_le (by rw [ByteArray.toList_eq]; simp)]
  rfl
end Go.V
namespace Go.Proofs.YtcechioeolokcaaGreatDoor
open Go.RowKit Go.V
set_option maxRecDepth 100000 in
set_option maxHeartbeats 4000000 in
theorem logsNil_law (rc : List UInt8) (vr : Value) (F : Nat → Prop) (p : ByteArray) (w : World) (hK : KX w) (hr : Rd w F vr (bys rc)) (hp : p.size ≤ maxLen) :
    Calls Tryz.prog 5 #[vr, .string p] w fun e w' => e = .returned (.bool true) ∧ Below w.heap.size w w' := by
  obtain ⟨Ar, cr, rfl⟩ := hr.shape
  have hps : p.size ≤ 9223372036854775807 := by simp [maxLen] at hp; omega
  have h0 := okI_0 p
  obtain ⟨b1, hb1⟩ : ∃ b, decide (1 ≤ p.size) = b := ⟨_, rfl⟩
  go_enter Tryz.func5, Tryz.ntmps5
  go_wp2_with (fail)
  refine (wakes11_any _ hK).mono ?_
  rintro e w1 ⟨rfl, hB1⟩
  go_wp2_with (fail)
  refine (sync11_nil _).mono ?_
  rintro e w2 ⟨rfl, hB2⟩
  have hB2' := hB1.trans (hB2.mono hB1.size)
  go_wp2_with (fail)
  refine (open11_nil _ _).mono ?_
  rintro e w3 ⟨A3, k3, c3, rfl, hB3⟩
  have hB3' := hB2'.trans (hB3.mono hB2'.size)
  clear hB1 hB2 hB2' hB3
  by_cases h18 : 1 ≤ p.size ∧ p.size ≤ 8
  · have g1 : decide ((1 : Int) ≤ (p.size : Int)) = true := decide_eq_true (by omega)
    have g2 : decide ((p.size : Int) ≤ 8) = true := decide_eq_true (by omega)
    go_wp2
    go_loopw [9, 33] (fun bv iv wr => ∃ i : Nat, i ≤ p.size ∧ iv = .int .i64 i ∧ bv = .bool (okI p i) ∧ wr = w3) (fun _ i _ => p.size - (intOf i).toNat)
    case atStart => exact ⟨0, Nat.zero_le _, rfl, by rw [h0, decide_eq_true h18.1, decide_eq_true h18.2]; rfl, rfl⟩
    case round =>
      obtain ⟨i, hi, rfl, rfl, rfl⟩ := hrel
      by_cases hlt : i < p.size
      · have hI : (i : Int) < (p.size : Int) := by omega
        have hin1 : IntKind.i64.wrap ((i : Int) + 1) = (i : Int) + 1 := IntWalk.i64_in _ (by omega)
        obtain ⟨b, hb⟩ : ∃ b, b = okI p i := ⟨_, rfl⟩
        rw [← hb]
        have Hb := hid hb
        clear hb h18 h0
        have hsu := okI_succ p i hlt
        rw [← Hb.out] at hsu
        have Hsu := hid hsu
        clear hsu
        cases b with
        | true =>
          by_cases h97 : 97 ≤ (p[i]'hlt).toNat
          · have g97 : decide ((97 : Int) ≤ ((p[i]'hlt).toNat : Int)) = true := decide_eq_true (by omega)
            have Hx : Hid (decide (((p[i]'hlt).toNat : Int) ≤ 122) = okI p (i + 1)) := by
              show _ = _
              rw [Hsu.out]
              unfold okC
              rw [decide_eq_true h97]
              by_cases h : (p[i]'hlt).toNat ≤ 122
              · rw [decide_eq_true h, decide_eq_true (by omega)]; rfl
              · rw [decide_eq_false h, decide_eq_false (by omega)]; rfl
            clear h97 Hb Hsu
            go_wp2
            go_roundw
            case rel => exact ⟨i + 1, by omega, by go_num, by rw [Hx.out], trivial⟩
            case measure => simp [intOf]; omega
          · have g97 : decide ((97 : Int) ≤ ((p[i]'hlt).toNat : Int)) = false := decide_eq_false (by omega)
            have Hx : Hid (okI p (i + 1) = false) := by
              show _ = _
              rw [Hsu.out]
              unfold okC
              rw [decide_eq_false h97]; rfl
            clear h97 Hb Hsu
            go_wp2
            go_roundw
            case rel => exact ⟨i + 1, by omega, by go_num, by rw [Hx.out], trivial⟩
            case measure => simp [intOf]; omega
        | false =>
          have Hx : Hid (okI p (i + 1) = false) := by
            show _ = _
            rw [Hsu.out]; rfl
          clear Hb Hsu
          go_wp2
          go_roundw
          case rel => exact ⟨i + 1, by omega, by go_num, by rw [Hx.out], trivial⟩
          case measure => simp [intOf]; omega
      · have hi' : i = p.size := by omega
        subst hi'
        have hI : ¬ (p.size : Int) < (p.size : Int) := by omega
        rw [okI_end]
        cases hok : okP p with
        | true =>
          have Hok := hid hok
          clear hok h18 h0
          go_wp2_with (fail)
          refine (new10_any 9 _).mono ?_
          rintro e w4 ⟨dv, M0, F0, rfl, hX, hB4, hMF⟩
          rw [show (⟨roomF 9, [], [], -1, false⟩ : Dk) = d0L 9 from by rfl] at hX
          obtain ⟨xd, rfl⟩ := hX.ptr
          have hs3 := hB3'.size
          have hM0 : ∀ b, M0 b → w.heap.size ≤ b := fun b h => by have := hMF b (.inl h); omega
          have hB4' := hB3'.trans (hB4.mono hs3)
          clear hB4 hMF hs3
          go_wp2_with (fail)
          refine (open11_new _ p M0 F0 9 _ (hK.below hB4') hX (by decide) Hok.out (fun e => absurd (hM0 _ e) (Nat.not_le_of_lt (KS.lt hK)))).mono ?_
          rintro e w5 ⟨lv, vr, M, F1, rfl, hvr, hL, hi⟩
          obtain ⟨hB5, hM5⟩ := hi.bel hB4' hM0
          obtain ⟨xl, _, rfl, _⟩ := hL.ptr
          obtain ⟨Av, cv, rfl, _, _⟩ := hvr.slShape
          clear hX hM0 hi hvr hB4' Hok
          go_wp2_with (fail)
          refine (append11_nil Ar rc.length cr _).mono ?_
          rintro e w6 ⟨rfl, hB6⟩
          have hL := hL.keep (fun b hb _ => hB6.block b hb) hB6.size
          have hB5 := hB5.trans (hB6.mono hB5.size)
          clear hB6
          go_wp2_with (fail)
          refine (cut11_nil _).mono ?_
          rintro e w7 ⟨rfl, hB7⟩
          have hL := hL.keep (fun b hb _ => hB7.block b hb) hB7.size
          have hB5 := hB5.trans (hB7.mono hB5.size)
          clear hB7
          go_wp2_with (fail)
          refine (next11_nil _).mono ?_
          rintro e w8 ⟨rfl, hB8⟩
          have hL := hL.keep (fun b hb _ => hB8.block b hb) hB8.size
          have hB5 := hB5.trans (hB8.mono hB5.size)
          clear hB8
          go_wp2_with (fail)
          refine (next11_any _ _ _ M F1 _ [] 1 _ _ hL).mono ?_
          rintro e w9 ⟨rfl, hB9⟩
          go_wp2
          go_ret
          exact ⟨rfl, hB5.trans (hB9.mono hB5.size)⟩
        | false =>
          have Hok := hid hok
          clear hok h18 h0
          go_wp2_with (fail)
          refine (new10_any 9 _).mono ?_
          rintro e w4 ⟨dv, M0, F0, rfl, hX, hB4, hMF⟩
          rw [show (⟨roomF 9, [], [], -1, false⟩ : Dk) = d0L 9 from by rfl] at hX
          obtain ⟨xd, rfl⟩ := hX.ptr
          have hs3 := hB3'.size
          have hM0 : ∀ b, M0 b → w.heap.size ≤ b := fun b h => by have := hMF b (.inl h); omega
          have hB4' := hB3'.trans (hB4.mono hs3)
          clear hB4 hMF hs3
          go_wp2_with (fail)
          refine (open11_bad _ p M0 F0 _ _ hX Hok.out hp).mono ?_
          rintro e w5 ⟨A5, k5, c5, rfl, hB5⟩
          have hB5 := hB4'.trans (hB5.mono hB4'.size)
          clear hX hM0 hB4' Hok
          go_wp2_with (fail)
          refine (append11_nil Ar rc.length cr _).mono ?_
          rintro e w6 ⟨rfl, hB6⟩
          have hB5 := hB5.trans (hB6.mono hB5.size)
          clear hB6
          go_wp2_with (fail)
          refine (cut11_nil _).mono ?_
          rintro e w7 ⟨rfl, hB7⟩
          have hB5 := hB5.trans (hB7.mono hB5.size)
          clear hB7
          go_wp2_with (fail)
          refine (next11_nil _).mono ?_
          rintro e w8 ⟨rfl, hB8⟩
          have hB5 := hB5.trans (hB8.mono hB5.size)
          clear hB8
          go_wp2
          go_ret
          exact ⟨rfl, hB5⟩
  · have hno : okP p = false := by
      rw [← okI_end]
      unfold okI
      rcases Nat.lt_or_ge p.size 1 with h | h
      · rw [decide_eq_false (by omega : ¬ 1 ≤ p.size)]; rfl
      · rw [decide_eq_false (by omega : ¬ p.size ≤ 8), Bool.and_false]; rfl
    have Hok := hid hno
    clear hno h0
    by_cases h1 : 1 ≤ p.size
    · have g1 : decide ((1 : Int) ≤ (p.size : Int)) = true := decide_eq_true (by omega)
      have g2 : decide ((p.size : Int) ≤ 8) = false := decide_eq_false (by omega)
      clear h18
      go_wp2
      go_loopw [9, 33] (fun bv iv wr => ∃ i : Nat, i ≤ p.size ∧ iv = .int .i64 i ∧ bv = .bool false ∧ wr = w3) (fun _ i _ => p.size - (intOf i).toNat)
      case atStart => exact ⟨0, Nat.zero_le _, rfl, rfl, rfl⟩
      case round =>
        obtain ⟨i, hi, rfl, rfl, rfl⟩ := hrel
        by_cases hlt : i < p.size
        · have hI : (i : Int) < (p.size : Int) := by omega
          have hin1 : IntKind.i64.wrap ((i : Int) + 1) = (i : Int) + 1 := IntWalk.i64_in _ (by omega)
          go_wp2
          go_roundw
          case rel => exact ⟨i + 1, by omega, by go_num, rfl, trivial⟩
          case measure => simp [intOf]; omega
        · have hi' : i = p.size := by omega
          subst hi'
          have hI : ¬ (p.size : Int) < (p.size : Int) := by omega
          go_wp2_with (fail)
          refine (new10_any 9 _).mono ?_
          rintro e w4 ⟨dv, M0, F0, rfl, hX, hB4, hMF⟩
          rw [show (⟨roomF 9, [], [], -1, false⟩ : Dk) = d0L 9 from by rfl] at hX
          obtain ⟨xd, rfl⟩ := hX.ptr
          have hs3 := hB3'.size
          have hM0 : ∀ b, M0 b → w.heap.size ≤ b := fun b h => by have := hMF b (.inl h); omega
          have hB4' := hB3'.trans (hB4.mono hs3)
          clear hB4 hMF hs3
          go_wp2_with (fail)
          refine (open11_bad _ p M0 F0 _ _ hX Hok.out hp).mono ?_
          rintro e w5 ⟨A5, k5, c5, rfl, hB5⟩
          have hB5 := hB4'.trans (hB5.mono hB4'.size)
          clear hX hM0 hB4' Hok
          go_wp2_with (fail)
          refine (append11_nil Ar rc.length cr _).mono ?_
          rintro e w6 ⟨rfl, hB6⟩
          have hB5 := hB5.trans (hB6.mono hB5.size)
          clear hB6
          go_wp2_with (fail)
          refine (cut11_nil _).mono ?_
          rintro e w7 ⟨rfl, hB7⟩
          have hB5 := hB5.trans (hB7.mono hB5.size)
          clear hB7
          go_wp2_with (fail)
          refine (next11_nil _).mono ?_
          rintro e w8 ⟨rfl, hB8⟩
          have hB5 := hB5.trans (hB8.mono hB5.size)
          clear hB8
          go_wp2
          go_ret
          exact ⟨rfl, hB5⟩
    · have g1 : decide ((1 : Int) ≤ (p.size : Int)) = false := decide_eq_false (by omega)
      clear h18
      go_wp2
      go_loopw [9, 33] (fun bv iv wr => ∃ i : Nat, i ≤ p.size ∧ iv = .int .i64 i ∧ bv = .bool false ∧ wr = w3) (fun _ i _ => p.size - (intOf i).toNat)
      case atStart => exact ⟨0, Nat.zero_le _, rfl, rfl, rfl⟩
      case round =>
        obtain ⟨i, hi, rfl, rfl, rfl⟩ := hrel
        by_cases hlt : i < p.size
        · have hI : (i : Int) < (p.size : Int) := by omega
          have hin1 : IntKind.i64.wrap ((i : Int) + 1) = (i : Int) + 1 := IntWalk.i64_in _ (by omega)
          go_wp2
          go_roundw
          case rel => exact ⟨i + 1, by omega, by go_num, rfl, trivial⟩
          case measure => simp [intOf]; omega
        · have hi' : i = p.size := by omega
          subst hi'
          have hI : ¬ (p.size : Int) < (p.size : Int) := by omega
          go_wp2_with (fail)
          refine (new10_any 9 _).mono ?_
          rintro e w4 ⟨dv, M0, F0, rfl, hX, hB4, hMF⟩
          rw [show (⟨roomF 9, [], [], -1, false⟩ : Dk) = d0L 9 from by rfl] at hX
          obtain ⟨xd, rfl⟩ := hX.ptr
          have hs3 := hB3'.size
          have hM0 : ∀ b, M0 b → w.heap.size ≤ b := fun b h => by have := hMF b (.inl h); omega
          have hB4' := hB3'.trans (hB4.mono hs3)
          clear hB4 hMF hs3
          go_wp2_with (fail)
          refine (open11_bad _ p M0 F0 _ _ hX Hok.out hp).mono ?_
          rintro e w5 ⟨A5, k5, c5, rfl, hB5⟩
          have hB5 := hB4'.trans (hB5.mono hB4'.size)
          clear hX hM0 hB4' Hok
          go_wp2_with (fail)
          refine (append11_nil Ar rc.length cr _).mono ?_
          rintro e w6 ⟨rfl, hB6⟩
          have hB5 := hB5.trans (hB6.mono hB5.size)
          clear hB6
          go_wp2_with (fail)
          refine (cut11_nil _).mono ?_
          rintro e w7 ⟨rfl, hB7⟩
          have hB5 := hB5.trans (hB7.mono hB5.size)
          clear hB7
          go_wp2_with (fail)
          refine (next11_nil _).mono ?_
          rintro e w8 ⟨rfl, hB8⟩
          have hB5 := hB5.trans (hB8.mono hB5.size)
          clear hB8
          go_wp2
          go_ret
          exact ⟨rfl, hB5⟩
end Go.Proofs.YtcechioeolokcaaGreatDoor
