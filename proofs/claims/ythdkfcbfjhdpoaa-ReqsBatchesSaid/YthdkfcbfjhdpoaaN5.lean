/- N5: contracts of a reader's methods that read on. -/
import Derived.Test.YthdkfcbfjhdpoaaN4
namespace Go.Proofs.Ythdkfcbfjhdpoaa
open Go.RowKit Go.V

def only (p : Nat) : Nat → Prop := fun b => b = p
theorem RdR.free {w : World} {p : Nat} {F : Nat → Prop} {bs : List UInt8} {k : Nat} (h : RdR w p F bs k) : w.frozen? ⟨p, 1, none⟩ = false := by
  obtain ⟨v, h1, _⟩ := h
  simp [World.frozen?, h1]
theorem heap_set_same (w : World) (p i : Nat) (u : Value) (cs : Array Value) (t : TypeId) (h : w.heap[p]? = some (.cells cs t (0, 0))) : (w.setCell ⟨p, i, none⟩ u).heap[p]? = some (.cells (cs.setIfInBounds i u) t (0, 0)) := by
  simp [World.setCell, Array.getElem?_modify, h]
theorem RdR.set {w : World} {p : Nat} {F : Nat → Prop} {bs : List UInt8} {k : Nat} (h : RdR w p F bs k) (k' : Nat) (hk : k' ≤ bs.length) : RdR (w.setCell ⟨p, 1, none⟩ (.int .i64 (k' : Int))) p F bs k' := by
  obtain ⟨v, h1, h2, _, h4⟩ := h
  refine ⟨v, by rw [heap_set_same _ _ _ _ _ _ h1]; rfl, h2.keep (fun b _ hf => ⟨hf, Below.heap_setCell _ _ _ _ (fun e => by have e' : b = p := e; subst e'; exact h4 hf)⟩), hk, h4⟩
theorem Ch.set {w : World} {p i : Nat} (u : Value) : Ch (only p) w (w.setCell ⟨p, i, none⟩ u) :=
  ⟨rfl, rfl, rfl, by simp [World.setCell], fun k _ hk => Below.heap_setCell _ _ _ _ hk⟩

def lenP : Except Nat (Nat × Nat) → Nat | .ok (_, n) => n | .error _ => 0
def e1 (r : Except Nat (Nat × Nat)) : Ending := match r with
  | .ok (x, _) => .returned (.tuple #[.int .u64 (x : Int), .int .i64 0])
  | .error e => .returned (.tuple #[.int .u64 0, .int .i64 (e : Int)])
/-- a call on a reader: what it answers, how far it stands then, nothing else turned -/
def On (p : Nat) (F : Nat → Prop) (bs : List UInt8) (w : World) (e0 : Ending) (k' : Nat) : Ending → World → Prop :=
  fun e w' => e = e0 ∧ RdR w' p F bs k' ∧ Ch (only p) w w'

set_option maxHeartbeats 400000 in
theorem packed_any (p : Nat) (F : Nat → Prop) (bs : List UInt8) (k : Nat) (w : World) (h : RdR w p F bs k) :
    Calls Try.prog 47 #[rp p] w (On p F bs w (e1 (readPk (bs.drop k))) (k + lenP (readPk (bs.drop k)))) := by
  have hpk := peek_any p F bs k w h
  cases hr : readPk (bs.drop k) with
  | error e =>
    rw [hr] at hpk
    have He := rdF_err _ _ _ _ hr
    unfold rp at hpk ⊢
    have hne : ((e : Int) != 0) = true := by rw [bne_iff_ne]; omega
    have Hpk := hid hpk
    clear hpk hr
    go_enter Try.func47, Try.ntmps47
    go_wp2_with (fail)
    refine Hpk.out.mono ?_
    rintro e w1 ⟨rfl, n, rfl⟩
    simp only [eP]
    go_wp2
    go_ret2
    exact ⟨rfl, h.drewN n, (Ch.refl _ _).drewN n⟩
  | ok r =>
    obtain ⟨x, m⟩ := r
    rw [hr] at hpk
    have hm := packed_readPk hr
    obtain ⟨A, c, h0, h1, hm2, _, hk⟩ := h.cells
    have hlen : k + m ≤ bs.length := by have := hm.2.2; simp at this; omega
    have hfz := h.free
    unfold rp at hpk ⊢
    have Hpk := hid hpk
    clear hpk hr hm
    go_enter Try.func47, Try.ntmps47
    go_wp2_with (fail)
    refine Hpk.out.mono ?_
    rintro e w1 ⟨rfl, n, rfl⟩
    simp only [eP]
    go_wp2
    go_ret2
    have hs := (h.drewN n).set (k + m) hlen
    rw [show ((k + m : Nat) : Int) = (k : Int) + (m : Int) from by push_cast; rfl] at hs
    exact ⟨rfl, hs, ((Ch.refl _ _).drewN n).trans (Ch.set _)⟩

def e2 (r : Except Nat (Nat × Nat)) : Ending := match r with
  | .ok (x, _) => .returned (.tuple #[.int .i64 (unfoldZ x), .int .i64 0])
  | .error e => .returned (.tuple #[.int .i64 0, .int .i64 (e : Int)])
set_option maxHeartbeats 400000 in
theorem folded_any (p : Nat) (F : Nat → Prop) (bs : List UInt8) (k : Nat) (w : World) (h : RdR w p F bs k) :
    Calls Try.prog 43 #[rp p] w (On p F bs w (e2 (readPk (bs.drop k))) (k + lenP (readPk (bs.drop k)))) := by
  have hpk := packed_any p F bs k w h
  cases hr : readPk (bs.drop k) with
  | error e =>
    rw [hr] at hpk
    have He := rdF_err _ _ _ _ hr
    unfold rp at hpk ⊢
    have hne : ((e : Int) != 0) = true := by rw [bne_iff_ne]; omega
    have Hpk := hid hpk
    clear hpk hr
    go_enter Try.func43, Try.ntmps43
    go_wp2_with (fail)
    refine Hpk.out.mono ?_
    rintro e w1 ⟨rfl, h1, h2⟩
    simp only [e1]
    go_wp2
    go_ret2
    exact ⟨rfl, h1, h2⟩
  | ok r =>
    obtain ⟨x, m⟩ := r
    rw [hr] at hpk
    have hx := (packed_readPk hr).2.1
    unfold rp at hpk ⊢
    have Hpk := hid hpk
    clear hpk hr
    go_enter Try.func43, Try.ntmps43
    go_wp2_with (fail)
    refine Hpk.out.mono ?_
    rintro e w1 ⟨rfl, h1, h2⟩
    simp only [e1]
    go_wp2_with (fail)
    refine (unfold_any x _ hx).mono ?_
    rintro e w1 ⟨rfl, rfl⟩
    go_wp2
    go_ret2
    exact ⟨rfl, h1, h2⟩

def cntR (most : Int) : Except Nat (Nat × Nat) → Except Nat (Nat × Nat)
  | .ok (x, n) => if most < 0 ∨ most < (x : Int) then .error 3 else .ok (x, n)
  | .error e => .error e
def eC (r : Except Nat (Nat × Nat)) : Ending := match r with
  | .ok (x, n) => .returned (.tuple #[.int .i64 (x : Int), .int .i64 (n : Int), .int .i64 0])
  | .error e => .returned (.tuple #[.int .i64 0, .int .i64 0, .int .i64 (e : Int)])
set_option maxHeartbeats 400000 in
theorem pcount_any (p : Nat) (F : Nat → Prop) (bs : List UInt8) (k : Nat) (most : Int) (w : World) (h : RdR w p F bs k) (hm1 : -9223372036854775808 ≤ most) (hm2 : most ≤ 9223372036854775807) :
    Calls Try.prog 40 #[rp p, .int .i64 most] w fun e w' => e = eC (cntR most (readPk (bs.drop k))) ∧ ∃ n, w' = w.drewN n := by
  have hpk := peek_any p F bs k w h
  cases hr : readPk (bs.drop k) with
  | error e =>
    rw [hr] at hpk
    have He := rdF_err _ _ _ _ hr
    unfold rp at hpk ⊢
    have hne : ((e : Int) != 0) = true := by rw [bne_iff_ne]; omega
    have Hpk := hid hpk
    clear hpk hr
    go_enter Try.func40, Try.ntmps40
    go_wp2_with (fail)
    refine Hpk.out.mono ?_
    rintro e w1 ⟨rfl, n, rfl⟩
    simp only [eP]
    go_wp2
    go_ret3
    exact ⟨rfl, _, rfl⟩
  | ok r =>
    obtain ⟨x, m⟩ := r
    rw [hr] at hpk
    have hx := (packed_readPk hr).2.1
    unfold rp at hpk ⊢
    have Hpk := hid hpk
    clear hpk hr
    by_cases hn : most < 0
    · have hd : decide (most < 0) = true := decide_eq_true hn
      have hE : cntR most (.ok (x, m)) = .error 3 := by simp [cntR, hn]
      rw [hE]
      clear hE
      go_enter Try.func40, Try.ntmps40
      go_wp2_with (fail)
      refine Hpk.out.mono ?_
      rintro e w1 ⟨rfl, n, rfl⟩
      simp only [eP]
      go_wp2
      go_ret3
      exact ⟨rfl, _, rfl⟩
    · have hd : decide (most < 0) = false := decide_eq_false hn
      have hn' : 0 ≤ most := by omega
      by_cases hg : most < (x : Int)
      · have hE : cntR most (.ok (x, m)) = .error 3 := by simp [cntR, hg]
        rw [hE]
        clear hE
        go_enter Try.func40, Try.ntmps40
        go_wp2_with (fail)
        refine Hpk.out.mono ?_
        rintro e w1 ⟨rfl, n, rfl⟩
        simp only [eP]
        go_wp2
        go_ret3
        exact ⟨rfl, _, rfl⟩
      · have hE : cntR most (.ok (x, m)) = .ok (x, m) := by simp [cntR, hg, hn]
        rw [hE]
        clear hE
        go_enter Try.func40, Try.ntmps40
        go_wp2_with (fail)
        refine Hpk.out.mono ?_
        rintro e w1 ⟨rfl, n, rfl⟩
        simp only [eP]
        go_wp2
        go_ret3
        exact ⟨rfl, _, rfl⟩
end Go.Proofs.Ythdkfcbfjhdpoaa
