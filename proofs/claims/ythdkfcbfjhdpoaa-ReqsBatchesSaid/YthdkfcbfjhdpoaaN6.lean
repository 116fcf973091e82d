/- N6: contracts of a reader's Count, Text and Fixed. -/
import Derived.Test.YthdkfcbfjhdpoaaN5
import Derived.StillTailTactics
namespace Go.Proofs.Ythdkfcbfjhdpoaa
open Go.RowKit Go.V

def eCt (r : Except Nat (Nat × Nat)) : Ending := match r with
  | .ok (x, _) => .returned (.tuple #[.int .i64 (x : Int), .int .i64 0])
  | .error e => .returned (.tuple #[.int .i64 0, .int .i64 (e : Int)])
theorem cntR_err {most : Int} {bs : List UInt8} {e : Nat} (h : cntR most (readPk bs) = .error e) : e = 1 ∨ e = 2 ∨ e = 3 := by
  cases hr : readPk bs with
  | error e' =>
    rw [hr] at h
    simp only [cntR] at h
    injection h with h
    subst h
    have := rdF_err _ _ _ _ hr
    omega
  | ok r =>
    obtain ⟨x, n⟩ := r
    rw [hr] at h
    simp only [cntR] at h
    split at h
    · injection h with h; omega
    · cases h
theorem cntR_ok {most : Int} {bs : List UInt8} {x n : Nat} (h : cntR most (readPk bs) = .ok (x, n)) : readPk bs = .ok (x, n) ∧ 0 ≤ most ∧ (x : Int) ≤ most := by
  cases hr : readPk bs with
  | error e' => rw [hr] at h; simp [cntR] at h
  | ok r =>
    obtain ⟨x', n'⟩ := r
    rw [hr] at h
    simp only [cntR] at h
    split at h
    · cases h
    · injection h with h
      injection h with h1 h2
      subst h1; subst h2
      exact ⟨rfl, by omega, by omega⟩

set_option maxHeartbeats 400000 in
theorem count_any (p : Nat) (F : Nat → Prop) (bs : List UInt8) (k : Nat) (most : Int) (w : World) (h : RdR w p F bs k) (hm1 : -9223372036854775808 ≤ most) (hm2 : most ≤ 9223372036854775807) :
    Calls Try.prog 36 #[rp p, .int .i64 most] w (On p F bs w (eCt (cntR most (readPk (bs.drop k)))) (k + lenP (cntR most (readPk (bs.drop k))))) := by
  have hpk := pcount_any p F bs k most w h hm1 hm2
  cases hr : cntR most (readPk (bs.drop k)) with
  | error e =>
    rw [hr] at hpk
    have He := cntR_err hr
    unfold rp at hpk ⊢
    have hne : ((e : Int) != 0) = true := by rw [bne_iff_ne]; omega
    have Hpk := hid hpk
    clear hpk hr
    go_enter Try.func36, Try.ntmps36
    go_wp2_with (fail)
    refine Hpk.out.mono ?_
    rintro e w1 ⟨rfl, n, rfl⟩
    simp only [eC]
    go_wp2
    go_ret2
    exact ⟨rfl, h.drewN n, (Ch.refl _ _).drewN n⟩
  | ok r =>
    obtain ⟨x, m⟩ := r
    rw [hr] at hpk
    obtain ⟨hr1, hmost, hxm⟩ := cntR_ok hr
    have hm := packed_readPk hr1
    obtain ⟨A, c, h0, h1, hmm, _, hk⟩ := h.cells
    have hlen : k + m ≤ bs.length := by have := hm.2.2; simp at this; omega
    have hfz := h.free
    unfold rp at hpk ⊢
    have Hpk := hid hpk
    clear hpk hr hm hr1
    go_enter Try.func36, Try.ntmps36
    go_wp2_with (fail)
    refine Hpk.out.mono ?_
    rintro e w1 ⟨rfl, n, rfl⟩
    simp only [eC]
    go_wp2
    go_ret2
    have hs := (h.drewN n).set (k + m) hlen
    rw [show ((k + m : Nat) : Int) = (k : Int) + (m : Int) from by push_cast; rfl] at hs
    exact ⟨rfl, hs, ((Ch.refl _ _).drewN n).trans (Ch.set _)⟩

/-- reading a text: where its bytes begin, how many they are -/
def textR (most : Int) (l : List UInt8) : Except Nat (Nat × Nat) := match cntR most (readPk l) with
  | .ok (n, sz) => if l.length < sz + n then .error 1 else .ok (n, sz)
  | .error e => .error e
def TextPost (p : Nat) (F : Nat → Prop) (bs : List UInt8) (k : Nat) (w : World) (r : Except Nat (Nat × Nat)) (e : Ending) (w' : World) : Prop := match r with
  | .ok (n, sz) => ∃ v, e = .returned (.tuple #[v, .int .i64 0]) ∧ Rd w' (fun b => w.heap.size ≤ b) v (bys (((bs.drop k).drop sz).take n)) ∧ RdR w' p F bs (k + (sz + n)) ∧ Ch (only p) w w'
  | .error er => e = .returned (.tuple #[.slice none 0 0, .int .i64 (er : Int)]) ∧ RdR w' p F bs k ∧ Ch (only p) w w'

set_option maxHeartbeats 800000 in
set_option maxRecDepth 100000 in
theorem text_any (p : Nat) (F : Nat → Prop) (bs : List UInt8) (k : Nat) (most : Int) (w : World) (h : RdR w p F bs k) (hm1 : -9223372036854775808 ≤ most) (hm2 : most ≤ 9223372036854775807) (hbs : bs.length ≤ 35184372088832) :
    Calls Try.prog 25 #[rp p, .int .i64 most] w (TextPost p F bs k w (textR most (bs.drop k))) := by
  have hpk := pcount_any p F bs k most w h hm1 hm2
  unfold textR
  cases hr : cntR most (readPk (bs.drop k)) with
  | error e =>
    rw [hr] at hpk
    have He := cntR_err hr
    unfold rp at hpk ⊢
    have hne : ((e : Int) != 0) = true := by rw [bne_iff_ne]; omega
    have Hpk := hid hpk
    clear hpk hr
    go_enter Try.func25, Try.ntmps25
    go_wp2_with (fail)
    refine Hpk.out.mono ?_
    rintro e w1 ⟨rfl, n, rfl⟩
    simp only [eC]
    go_wp2
    go_ret2
    exact ⟨rfl, h.drewN n, (Ch.refl _ _).drewN n⟩
  | ok r =>
    obtain ⟨n, sz⟩ := r
    rw [hr] at hpk
    obtain ⟨hr1, hmost, hxm⟩ := cntR_ok hr
    have hm := packed_readPk hr1
    obtain ⟨A, c, h0, h1, hmm, hrd, hk⟩ := h.cells
    have hlen : k + sz ≤ bs.length := by have := hm.2.2; simp at this; omega
    have hfz := h.free
    unfold rp at hpk ⊢
    have Hpk := hid hpk
    clear hpk hr hm hr1
    dsimp only
    by_cases hsh : (bs.drop k).length < sz + n
    · rw [if_pos hsh]
      rw [List.length_drop] at hsh
      have hlt : (bs.length : Int) - (k : Int) - (sz : Int) < (n : Int) := by omega
      go_enter Try.func25, Try.ntmps25
      go_wp2_with (fail)
      refine Hpk.out.mono ?_
      rintro e w1 ⟨rfl, m, rfl⟩
      simp only [eC]
      go_wp2_with (fail)
      refine (left_any p F bs k _ (h.drewN m)).mono ?_
      rintro e w1 ⟨rfl, m2, rfl⟩
      go_wp2
      go_ret2
      exact ⟨rfl, h.drewN _, (Ch.refl _ _).drewN _⟩
    · rw [if_neg hsh]
      rw [List.length_drop] at hsh
      have hlt : ¬ (bs.length : Int) - (k : Int) - (sz : Int) < (n : Int) := by omega
      have hle : k + sz + n ≤ bs.length := by omega
      go_enter Try.func25, Try.ntmps25
      go_wp2_with (fail)
      refine Hpk.out.mono ?_
      rintro e w1 ⟨rfl, m, rfl⟩
      simp only [eC]
      go_wp2_with (fail)
      refine (left_any p F bs k _ (h.drewN m)).mono ?_
      rintro e w1 ⟨rfl, m2, rfl⟩
      go_wp2_with (fail)
      have hs := (h.drewN (m + m2)).set (k + (sz + n)) (by omega)
      rw [show ((k + (sz + n) : Nat) : Int) = (k : Int) + (sz : Int) + (n : Int) from by omega] at hs
      have hch : Ch (only p) w ((w.drewN (m + m2)).setCell ⟨p, 1, none⟩ (.int .i64 ((k : Int) + (sz : Int) + (n : Int)))) := ((Ch.refl _ _).drewN _).trans (Ch.set _)
      obtain ⟨W, hW⟩ : ∃ W, W = ((w.drewN (m + m2)).setCell ⟨p, 1, none⟩ (.int .i64 ((k : Int) + (sz : Int) + (n : Int)))) := ⟨_, rfl⟩
      rw [← hW] at hs hch ⊢
      clear hW h0 h1 hfz
      obtain ⟨A2, c2, h0, h1, _, hrd2, _⟩ := hs.cells
      rw [show ((k + (sz + n) : Nat) : Int) = (k : Int) + (sz : Int) + (n : Int) from by omega] at h1
      obtain ⟨A', m', c', hsl, hcut⟩ := hrd2.cut slB ((k : Int) + (sz : Int)) ((k : Int) + (sz : Int) + (n : Int)) (by omega) (by omega) (by omega)
      rw [drop_take_int] at hcut
      refine wp_region_tail 10 (by kernel_rfl) (by kernel_rfl) ?_
      simp only [List.take_succ_cons, List.take_zero, List.drop_succ_cons, List.drop_zero]
      repeat still_step
      refine wpStill_nil ?_
      go_wp2_with (fail)
      refine (ext_i _ _ 0 F _ hcut.drew (by omega) (by simp; omega)).mono ?_
      rintro e w3 ⟨v3, rfl, ho3, hB3⟩
      have hB3' : Below W.heap.size W w3 := below_of_drew hB3
      have hsz := hch.size
      go_wp2
      go_ret2
      exact ⟨v3, rfl, Rd.of_own' ho3 (fun b h1 _ => Nat.le_trans hsz h1), hs.belowR hB3', hch.belowR hB3'⟩
end Go.Proofs.Ythdkfcbfjhdpoaa
