/- E0: layer 10: small functions of the landed code: names, what a thing puts, clones. -/
import Derived.Test.YtjaiffefgjopmaaEP
import Derived.Test.YtjaiffefgjopmaaSlc
namespace Go.Proofs.Ytjaiffefgjopmaa
open Go.RowKit Go.V Go.Maps
theorem isName_any (n : ByteArray) (w : World) :
    Calls Try.prog 54 #[.string n] w fun e w' => e = .returned (.bool (namF n)) ∧ w' = w := by
  by_cases h1 : n.size = 0
  · have h1I : ¬ 0 < (n.size : Int) := by omega
    have hd1 : decide (0 < (n.size : Int)) = false := decide_eq_false h1I
    have hr : Hid (namF n = false) := decide_eq_false (fun h => by omega)
    clear h1
    go_enter Try.func54, Try.ntmps54
    go_wp2
    go_ret
    exact ⟨by rw [hr.out]; rfl, rfl⟩
  · have h1I : 0 < (n.size : Int) := by omega
    have hd1 : decide (0 < (n.size : Int)) = true := decide_eq_true h1I
    by_cases h2 : n.size ≤ 24
    · have h2I : (n.size : Int) ≤ 24 := by omega
      have hd2 : decide ((n.size : Int) ≤ 24) = true := decide_eq_true h2I
      have hr : Hid (namF n = true) := decide_eq_true ⟨by omega, h2⟩
      clear h1
      go_enter Try.func54, Try.ntmps54
      go_wp2
      go_ret
      exact ⟨by rw [hr.out]; rfl, rfl⟩
    · have h2I : ¬ (n.size : Int) ≤ 24 := by omega
      have hd2 : decide ((n.size : Int) ≤ 24) = false := decide_eq_false h2I
      have hr : Hid (namF n = false) := decide_eq_false (fun h => h2 h.2)
      clear h1
      go_enter Try.func54, Try.ntmps54
      go_wp2
      go_ret
      exact ⟨by rw [hr.out]; rfl, rfl⟩
theorem puts_any (a : Ac) (u : Value) (w : World) :
    Calls Try.prog 41 #[thV a u] w fun e w' => e = .returned (.bool (putsF a)) ∧ Below w.heap.size w w' := by
  unfold thV
  by_cases h0 : a.k = 0
  · have hd : (a.k == 0) = true := beq_iff_eq.2 h0
    have hr : Hid (putsF a = true) := decide_eq_true (.inl h0)
    clear h0
    go_enter Try.func41, Try.ntmps41
    go_wp2
    go_ret
    exact ⟨by rw [hr.out]; rfl, (Below.refl _ _).alloc (Nat.le_refl _) _⟩
  · have hd : (a.k == 0) = false := beq_eq_false_iff_ne.2 h0
    by_cases h1 : a.k = 1
    · have hd1 : (a.k == 1) = true := beq_iff_eq.2 h1
      have hr : Hid (putsF a = true) := decide_eq_true (.inr h1)
      clear h0 h1
      go_enter Try.func41, Try.ntmps41
      go_wp2
      go_ret
      exact ⟨by rw [hr.out]; rfl, (Below.refl _ _).alloc (Nat.le_refl _) _⟩
    · have hd1 : (a.k == 1) = false := beq_eq_false_iff_ne.2 h1
      have hr : Hid (putsF a = false) := decide_eq_false (by rintro (h | h); exact h0 h; exact h1 h)
      clear h0 h1
      go_enter Try.func41, Try.ntmps41
      go_wp2
      go_ret
      exact ⟨by rw [hr.out]; rfl, (Below.refl _ _).alloc (Nat.le_refl _) _⟩
theorem sclone_any (s : ByteArray) (w : World) (_hs : s.size ≤ maxLen) (hs2 : s.size ≤ 281474976710656) :
    Calls Try.prog 52 #[.string s] w fun e w' => e = .returned (.string s) ∧ Below w.heap.size w w' := by
  go_enter Try.func52, Try.ntmps52
  go_wp2_with (fail)
  refine (Try.stringslite_Clone s _ hs2).mono ?_
  rintro e w1 ⟨rfl, hB⟩
  go_wp2
  go_ret
  exact ⟨rfl, hB⟩
set_option maxRecDepth 100000 in
set_option maxHeartbeats 2000000 in
theorem bclone_any (bs : List UInt8) (F : Nat → Prop) (v : Value) (w : World) (h : Rd w F v (bys bs)) (hb : bs.length ≤ 1000000000) :
    Calls Try.prog 40 #[v] w fun e w' => ∃ v', e = .returned v' ∧ w'.ownsRow w.heap.size 5 1 v' bs.length (bvs bs) ∧ Below w.heap.size w w' := by
  obtain ⟨A, c, rfl⟩ := h.shape
  have hsr := h.src
  cases A with
  | none =>
    obtain ⟨h0, h1⟩ := hsr.none0
    have h2 : Hid (bs = []) := List.eq_nil_of_length_eq_zero h0
    rw [h0]
    clear h h0 h1 hsr
    have hnil := fun W : World => (by kernel_rfl : (Go.binOp BinOp.eql 29 (.slice none 0 c) (.slice none 0 0)).run Try.prog W = .ok (.bool true) W)
    go_enter Try.func40, Try.ntmps40
    go_wp2
    go_ret
    exact ⟨_, rfl, by rw [h2.out]; exact World.ownsRow_nil _ _ _ _, Below.refl _ _⟩
  | some ad =>
    have hnil := fun W : World => (by kernel_rfl : (Go.binOp BinOp.eql 29 (.slice (some ad) bs.length c) (.slice none 0 0)).run Try.prog W = .ok (.bool false) W)
    have Hbs := hid (fun W : World => (by kernel_rfl : (Instr.buildSlice 29 0 #[]).run Try.prog W = .ok (.slice (some ⟨W.heap.size, 0, none⟩) 0 0) (W.alloc (.cells #[] 5))))
    go_enter Try.func40, Try.ntmps40
    go_wp2_with (first | (refine wp_bs0 29 5 rfl rfl Hbs.out ?_; intro v9 w9 ho9 hB9; have hsr9 := (h.below hB9).src) | (refine wp_app (.tmp 5) (.tmp 6) slB rfl rfl rfl ho9 rfl hsr9 (oneCell_bvs _) (by simp only [maxLen]; omega) (by omega) hB9.size ?_; intro v8 w8 ho8 hG8 _; refine wp_stop ?_) | go_in)
    have hB8 : Below w.heap.size w w8 := hB9.grown hG8 hB9.size (fun k hk => (ho9.lt k hk).1)
    rw [List.nil_append, Nat.zero_add] at ho8
    obtain ⟨A8, c8, rfl⟩ := own_shape ho8
    clear ho9 hB9 hG8 hsr hsr9 h
    refine wp_go ?_
    go_wp2
    go_ret
    exact ⟨_, rfl, ho8, hB8⟩
end Go.Proofs.Ytjaiffefgjopmaa
