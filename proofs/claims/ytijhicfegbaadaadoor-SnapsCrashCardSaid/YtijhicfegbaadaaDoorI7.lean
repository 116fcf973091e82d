/- I7: layer 12: SnapsLoad. -/
import Derived.Test.YtijhicfegbaadaaDoorI2
import Derived.Test.YtijhicfegbaadaaDoorI6
namespace Go.V
open Go.RowKit
def dN (room : Int) : Dk := ⟨room, [], [], -1, false⟩
theorem wr_new (n : ByteArray) (b : List UInt8) (hb : b.length ≤ 3000) : DkSm (doF (dN 65536) (snW n b)).1 ∧ (doF (dN 65536) (snW n b)).1.down = false ∧ (∀ x, findF (nowF (doF (dN 65536) (snW n b)).1) n = some x → x.length ≤ 1000000) ∧ (named12 n = true → findF (nowF (doF (dN 65536) (snW n b)).1) n = some b) := by
  have hnow : nowF (dN 65536) = [] := rfl
  have hsz : ¬ (dN 65536).room < (szA (snW n b) (nowF (dN 65536)) : Int) := by
    rw [hnow]
    have : szA (snW n b) [] = b.length := by unfold szA; simp [snW]
    rw [this]
    show ¬ (65536 : Int) < _
    omega
  by_cases hn : namF n = true
  · have e : doF (dN 65536) (snW n b) = ({ dN 65536 with pend := [snW n b] }, 0) := by
      rw [do_put (.inr rfl), if_neg (by simp [dN]), if_neg (by show ¬ namF n = false; rw [hn]; simp), if_neg hsz, push_calm _ _ ⟨rfl, rfl⟩]
      rfl
    have hf : findF (nowF { dN 65536 with pend := [snW n b] }) n = some b := by
      show findF (withF [] n b) n = some b
      exact find_with12 (show uq [] from List.nodup_nil) _ _
    rw [e]
    refine ⟨⟨by simp [dN], ?_, by simp [dN], by simp [dN]⟩, rfl, fun x hx => ?_, fun _ => hf⟩
    · show tot [] + totA [snW n b] ≤ 1000000000
      rw [totA_one]
      have : (snW n b).b.length = b.length := rfl
      unfold tot
      simp
      omega
    · rw [hf] at hx
      injection hx with hx
      subst hx
      omega
  · have e : doF (dN 65536) (snW n b) = (dN 65536, 15) := by
      rw [do_put (.inr rfl), if_neg (by simp [dN]), if_pos (by show namF n = false; simpa using hn)]
    rw [e]
    refine ⟨⟨by simp [dN], by simp [dN, tot, totA], by simp [dN], by simp [dN]⟩, rfl, (fun x hx => by cases (show (none : Option (List UInt8)) = some x from hx)), fun h => absurd (new_nam h).2 hn⟩
theorem new_sm : DkSm (dN 65536) := ⟨by simp [dN], by simp [dN, tot, totA], by simp [dN], by simp [dN]⟩
end Go.V
namespace Go.Proofs.YtijhicfegbaadaaDoor
open Go.RowKit Go.V
theorem load_bad {r : Option (List UInt8)} {n : ByteArray} (h : named12 n = false) : loadF r n = ([], 15) := if_pos h
theorem load_none {n : ByteArray} (h : named12 n = true) : loadF none n = ([], 13) := if_neg (by rw [h]; simp)
theorem load_some {n : ByteArray} {b : List UInt8} (h : named12 n = true) : loadF (some b) n = ((readS b).getD [], readE (readS b)) := by
  unfold loadF
  rw [if_neg (by rw [h]; simp)]
  dsimp only
  cases readS b <;> rfl
set_option maxRecDepth 100000 in
set_option maxHeartbeats 8000000 in
theorem snapsLoad_law (n : ByteArray) (b : List UInt8) (tb : Bool) (vb : Value) (F : Nat → Prop) (w : World) (hK : KS w) (hnm : n.size ≤ maxLen) (hb : Rd w F vb (bys b)) :
    Calls Tryd.prog 3 #[.string n, vb, .bool tb] w fun e w' => e = .returned (.bool true) ∧ Below w.heap.size w w' := by
  obtain ⟨Ab, cb, rfl⟩ := hb.shape
  go_enter Tryd.func3, Tryd.ntmps3
  go_wp2_with (fail)
  refine (wakes12_any _ hK).mono ?_
  rintro e w1 ⟨rfl, hB1⟩
  by_cases hlb : b.length ≤ 3000
  case neg =>
    have h2 : (3000 : Int) < (b.length : Int) := by omega
    go_wp2
    go_ret
    exact ⟨rfl, hB1⟩
  have h2 : ¬ (3000 : Int) < (b.length : Int) := by omega
  by_cases hln : n.size ≤ 30
  case neg =>
    have h3 : (30 : Int) < (n.size : Int) := by omega
    go_wp2
    go_ret
    exact ⟨rfl, hB1⟩
  have h3 : ¬ (30 : Int) < (n.size : Int) := by omega
  go_wp2_with (fail)
  refine (new12 65536 w _ hB1).mono ?_
  rintro e w2 ⟨xd, M, F0, rfl, hQ, hB2⟩
  rw [show (⟨roomF 65536, [], [], -1, false⟩ : Dk) = dN 65536 from by rfl] at hQ
  clear hB2
  have key : ∀ (M : Nat → Prop) (F0 : Nat → Prop) (D : Dk) (w3 : World), QX w w3 (.pointer (some ⟨xd, 0, none⟩)) M F0 D → DkSm D → D.down = false → (∀ x, findF (nowF D) n = some x → x.length ≤ 1000000) → Calls Tryd.prog 11 #[.pointer (some ⟨xd, 0, none⟩), .string n] w3 fun e w' => ∃ vt, e = .returned (.tuple #[vt, .int .i64 (loadF (findF (nowF D) n) n).2]) ∧ Rd w' (fun b => w3.heap.size ≤ b) vt (bys (loadF (findF (nowF D) n) n).1) ∧ Below w3.heap.size w3 w' := fun M F0 D w3 hQ hs hd hx => load12_ok w _ M F0 D n _ w3 hK hQ hs hd (by omega) rfl hx
  cases tb with
  | false =>
    have hl := key M F0 _ _ hQ new_sm rfl (fun x hx => by cases hx)
    rw [show findF (nowF (dN 65536)) n = none from rfl] at hl
    clear key
    by_cases hnn : named12 n = true
    · rw [load_none hnn] at hl
      have Hl := hid hl
      clear hl
      go_wp2_with (fail)
      refine Hl.out.mono ?_
      rintro e w3 ⟨vt, rfl, hvt, hB3⟩
      obtain ⟨At, ct, rfl⟩ := hvt.shape
      have hB3' := hQ.B.trans (hB3.mono hQ.B.size)
      clear hvt Hl
      go_wp2_with (fail)
      refine (named12_any n _ hnm).mono ?_
      rw [hnn]
      rintro e w4 ⟨rfl, hB4⟩
      go_wp2
      go_ret
      exact ⟨rfl, hB3'.trans (hB4.mono hB3'.size)⟩
    · have hnn : named12 n = false := by simpa using hnn
      rw [load_bad hnn] at hl
      have Hl := hid hl
      clear hl
      go_wp2_with (fail)
      refine Hl.out.mono ?_
      rintro e w3 ⟨vt, rfl, hvt, hB3⟩
      obtain ⟨At, ct, rfl⟩ := hvt.shape
      have hB3' := hQ.B.trans (hB3.mono hQ.B.size)
      clear hvt Hl
      go_wp2_with (fail)
      refine (named12_any n _ hnm).mono ?_
      rw [hnn]
      rintro e w4 ⟨rfl, hB4⟩
      go_wp2
      go_ret
      exact ⟨rfl, hB3'.trans (hB4.mono hB3'.size)⟩
  | true =>
    obtain ⟨hs, hd, hx, hf⟩ := wr_new n b hlb
    go_wp2_with (fail)
    refine (write10_any _ M F0 _ (dN 65536) (snW n b) _ _ hQ.i new_sm (snW_sm (by omega) (by omega)) rfl (hQ.rd hb) (fun y e e2 => by have e : y < w.heap.size := e; have := hQ.M y e2; omega)).mono ?_
    rintro e w3 ⟨rfl, hp⟩
    obtain ⟨M3, F3, hQ3, _⟩ := hQ.mk' hp
    obtain ⟨D3, hD3⟩ : ∃ D, D = (doF (dN 65536) (snW n b)).1 := ⟨_, rfl⟩
    obtain ⟨E3, hE3⟩ : ∃ E, E = (doF (dN 65536) (snW n b)).2 := ⟨_, rfl⟩
    rw [← hE3]
    rw [← hD3] at hQ3 hs hd hx hf
    clear hp hD3 hE3 hQ
    have hl := key M3 F3 _ _ hQ3 hs hd hx
    clear key hs hd hx
    by_cases hnn : named12 n = true
    · rw [hf hnn, load_some hnn] at hl
      clear hf
      have Hl := hid hl
      clear hl
      go_wp2_with (fail)
      refine Hl.out.mono ?_
      rintro e w4 ⟨vt, rfl, hvt, hB4⟩
      obtain ⟨At, ct, rfl⟩ := hvt.shape
      have hQ4 := hQ3.below hB4
      clear hQ3 Hl
      go_wp2_with (fail)
      refine (named12_any n _ hnm).mono ?_
      rw [hnn]
      rintro e w5 ⟨rfl, hB5⟩
      have hQ5 := hQ4.below hB5
      have hvt5 := hvt.below hB5
      have hb5 := hQ5.rd hb
      clear hvt hQ4
      go_wp2_with (fail)
      refine (read12_any _ b _ _ hb5 (by omega)).mono ?_
      rintro e w6 ⟨u, rfl, hu, hB6⟩
      obtain ⟨Au, cu, rfl⟩ := hu.shape
      have hQ6 := hQ5.below hB6
      have hvt6 := hvt5.below hB6
      clear hvt5 hQ5 hb5
      go_wp2_with (fail)
      refine (same_b _ _ _ _ _ _ _ hvt6 hu).mono ?_
      rw [decide_eq_true rfl]
      rintro e w7 ⟨rfl, hB7⟩
      have hQ7 := hQ6.below hB7
      clear hQ6 hvt6 hu
      obtain ⟨R, hR⟩ : ∃ R, R = readE (readS b) := ⟨_, rfl⟩
      go_wp2
      go_ret
      exact ⟨by simp, hQ7.B⟩
    · have hnn : named12 n = false := by simpa using hnn
      rw [load_bad hnn] at hl
      clear hf
      have Hl := hid hl
      clear hl
      go_wp2_with (fail)
      refine Hl.out.mono ?_
      rintro e w4 ⟨vt, rfl, hvt, hB4⟩
      obtain ⟨At, ct, rfl⟩ := hvt.shape
      have hQ4 := hQ3.below hB4
      clear hvt Hl hQ3
      go_wp2_with (fail)
      refine (named12_any n _ hnm).mono ?_
      rw [hnn]
      rintro e w5 ⟨rfl, hB5⟩
      go_wp2
      go_ret
      exact ⟨rfl, (hQ4.below hB5).B⟩
end Go.Proofs.YtijhicfegbaadaaDoor
