/- BC: several texts in one (CA Xg BC). -/
import Derived.Test.YtnhhbbjkeekneaaDoorCo
import Derived.Test.YtnhhbbjkeekneaaDoorCq
import Derived.Test.YtnhhbbjkeekneaaDoorVA
import Derived.Test.YtnhhbbjkeekneaaDoorN3
/- CA: layer 17, pure: sets of members as words, and what is found among parts. -/
namespace Go.Proofs.YtnhhbbjkeekneaaDoor
open Go.RowKit Go.V
/-! sets as words -/
def putB (S i : Nat) : Nat := S ||| 2 ^ i
/-- the word S holds those below 16 of whom g is true -/
def SetW (S : Nat) (g : Nat → Bool) : Prop := S < 65536 ∧ ∀ i, i < 16 → mbit S i = g i
theorem putB_lt {S i : Nat} (hS : S < 65536) (hi : i < 16) : putB S i < 65536 := by
  unfold putB
  exact Nat.or_lt_two_pow (n := 16) hS (Nat.pow_lt_pow_right (by omega) hi)
theorem mbit_put (S i j : Nat) : mbit (putB S i) j = (mbit S j || decide (j = i)) := by
  unfold putB
  rw [mbit_test, mbit_test, Nat.testBit_or, Nat.testBit_two_pow]
  congr 1
  rw [Bool.eq_iff_iff, decide_eq_true_eq, decide_eq_true_eq]
  exact ⟨fun h => h.symm, fun h => h.symm⟩
theorem SetW.zero : SetW 0 (fun _ => false) := ⟨by omega, fun i _ => by unfold mbit; simp⟩
theorem SetW.congr {S : Nat} {g g' : Nat → Bool} (h : SetW S g) (e : ∀ i, i < 16 → g i = g' i) : SetW S g' := ⟨h.1, fun i hi => (h.2 i hi).trans (e i hi)⟩
theorem SetW.put {S i : Nat} {g : Nat → Bool} (h : SetW S g) (hi : i < 16) : SetW (putB S i) (fun j => g j || decide (j = i)) := ⟨putB_lt h.1 hi, fun j hj => by rw [mbit_put, h.2 j hj]⟩
theorem SetW.mem {S : Nat} {g : Nat → Bool} (h : SetW S g) : memL S 16 = (List.range 16).filter g := by
  unfold memL
  apply List.filter_congr
  intro i hi
  exact h.2 i (List.mem_range.1 hi)
theorem or_bit17 (m x : Nat) (hm : m < 65536) (hx : x < 16) : bits BinOp.or IntKind.u16 (m : Int) (IntKind.u16.wrap (2 ^ x)) = ((putB m x : Nat) : Int) := by
  have hp : 2 ^ x ≤ 2 ^ 15 := Nat.pow_le_pow_right (by omega) (by omega)
  have e : IntKind.u16.wrap ((2 : Int) ^ x) = ((2 ^ x : Nat) : Int) := by
    obtain ⟨q, hq⟩ : ∃ q, q = 2 ^ x := ⟨_, rfl⟩
    rw [show (2 : Int) ^ x = ((2 ^ x : Nat) : Int) from by push_cast; rfl, ← hq, IntKind.wrap_u16]
    rw [← hq] at hp
    omega
  rw [e]
  exact u16_or_nat m (2 ^ x) hm (Nat.lt_of_le_of_lt hp (by omega))
/-! what is known of the first j parts -/
end Go.Proofs.YtnhhbbjkeekneaaDoor
/- Xg: layer 19, pure: the landed words: who wants each regency. -/
namespace Go.Proofs.YtnhhbbjkeekneaaDoor
open Go.RowKit Go.V
/-- of each regency the word of those who want it -/
structure WdS (W T : List Nat) : Prop where
  len : T.length = 41
  at_ : ∀ (r S : Nat), T[r]? = some S → SetW S (fun i => decide (r < W.getD i 0))
/-- the same, amid a Take: member f wants those below j too -/
structure WdJ (W T : List Nat) (f j : Nat) : Prop where
  len : T.length = 41
  at_ : ∀ (r S : Nat), T[r]? = some S → SetW S (fun i => decide (r < W.getD i 0) || (decide (i = f) && decide (r < j)))
def zT19 : List Nat := List.replicate 41 0
theorem w0_get (i : Nat) : w0W.getD i 0 = 0 := by
  unfold w0W
  rw [List.getD_eq_getElem?_getD, List.getElem?_replicate]
  split <;> rfl
theorem WdS.zero : WdS w0W zT19 := ⟨by simp [zT19], fun r S hS => by
  have h0 : S = 0 := by unfold zT19 at hS; rw [List.getElem?_replicate] at hS; split at hS; injection hS with hS; exact hS.symm; cases hS
  subst h0
  refine SetW.zero.congr (fun i _ => ?_)
  rw [w0_get]
  simp⟩
theorem WdS.j0 {W T : List Nat} (h : WdS W T) (f : Nat) : WdJ W T f 0 := ⟨h.len, fun r S hS => (h.at_ r S hS).congr (fun i _ => by simp)⟩
theorem WdJ.put {W T : List Nat} {f j S : Nat} (h : WdJ W T f j) (hf : f < 16) (hS : T[j]? = some S) : WdJ W (T.set j (putB S f)) f (j + 1) := ⟨by rw [List.length_set]; exact h.len, fun r S' hS' => by
  by_cases he : r = j
  · subst he
    rw [List.getElem?_set_self (List.getElem?_eq_some_iff.1 hS).1] at hS'
    injection hS' with hS'
    subst hS'
    refine ((h.at_ r S hS).put hf).congr (fun i _ => ?_)
    cases decide (r < W.getD i 0) <;> cases h2 : decide (i = f) <;> simp
  · rw [List.getElem?_set_ne (fun h => he h.symm)] at hS'
    refine (h.at_ r S' hS').congr (fun i _ => ?_)
    have : decide (r < j) = decide (r < j + 1) := by
      by_cases h : r < j
      · rw [decide_eq_true h, decide_eq_true (by omega)]
      · rw [decide_eq_false h, decide_eq_false (by omega)]
    rw [this]⟩
theorem WdJ.done {W T : List Nat} {f r : Nat} (h : WdJ W T f (r + 1)) (hW : W.length = 16) (hf : f < 16) (hr : W.getD f 0 ≤ r) : WdS (W.set f (r + 1)) T := ⟨h.len, fun q S hS => (h.at_ q S hS).congr (fun i _ => by
  by_cases hi : i = f
  · subst hi
    have e1 : (W.set i (r + 1)).getD i 0 = r + 1 := by
      rw [List.getD_eq_getElem?_getD, List.getElem?_set_self (by omega)]; rfl
    rw [e1]
    by_cases hq : q < r + 1
    · simp [hq]
    · have : ¬ q < W.getD i 0 := by omega
      rw [decide_eq_false this, decide_eq_false hq, Bool.and_false]; rfl
  · have e1 : (W.set f (r + 1)).getD i 0 = W.getD i 0 := by
      rw [List.getD_eq_getElem?_getD, List.getD_eq_getElem?_getD, List.getElem?_set_ne (fun h => hi h.symm)]
    rw [e1]
    simp [hi])⟩
theorem list_get : ∀ (W : List Nat), W = (List.range W.length).map (fun i => W.getD i 0) := by
  intro W
  apply List.ext_getElem?
  intro i
  rw [List.getElem?_map]
  by_cases h : i < W.length
  · rw [List.getElem?_range h]
    simp [List.getElem?_eq_getElem h]
  · rw [List.getElem?_eq_none (by omega), List.getElem?_eq_none (by simp; omega)]
    rfl
theorem WdS.cnt {W T : List Nat} {r S : Nat} (h : WdS W T) (hW : W.length = 16) (hS : T[r]? = some S) : szM S = cntW W (r : Int) := by
  unfold szM cntW
  rw [(h.at_ r S hS).mem]
  have e := list_get W
  rw [hW] at e
  conv => rhs; rw [e]
  rw [List.filter_map, List.length_map]
  congr 1
  refine congrFun (congrArg _ (funext (fun i => ?_))) _
  show decide (r < W.getD i 0) = decide (0 < W.getD i 0 ∧ (r : Int) ≤ (W.getD i 0 : Int) - 1)
  by_cases h : r < W.getD i 0
  · rw [decide_eq_true h, decide_eq_true (by omega)]
  · rw [decide_eq_false h, decide_eq_false (by omega)]
/-- the greatest below n for which it holds, above one and below the other -/
def grF (a b : Int) (f : Nat → Bool) : Nat → Int
  | 0 => -1
  | n + 1 => if (decide (a < (n : Int) ∧ (n : Int) < b) && f n) = true then (n : Int) else grF a b f n
theorem gr_gr {a : Int} {f : Nat → Bool} {W : List Nat} {many : Nat} (hm : 0 < many) : ∀ (n : Nat), n ≤ 41 → (∀ r, r < n → f r = decide (many ≤ cntW W (r : Int))) → grF a 41 f n = gW W a many n
  | 0, _, _ => rfl
  | n + 1, hn, h => by
    unfold grF gW
    have ih := gr_gr (a := a) hm n (by omega) (fun r hr => h r (by omega))
    rw [ih, h n (by omega)]
    have : (decide (a < (n : Int) ∧ (n : Int) < 41) && decide (many ≤ cntW W (n : Int))) = isW W a many n := by
      unfold isW
      by_cases h1 : a < (n : Int)
      · by_cases h2 : many ≤ cntW W (n : Int)
        · rw [decide_eq_true h2, decide_eq_true ⟨h1, by omega⟩, decide_eq_true ⟨h1, hm, h2⟩]; rfl
        · rw [decide_eq_false h2, decide_eq_false (p := a < (n : Int) ∧ 0 < many ∧ many ≤ cntW W (n : Int)) (fun h => h2 h.2.2), Bool.and_false]
      · rw [decide_eq_false (p := a < (n : Int) ∧ (n : Int) < 41) (fun h => h1 h.1), decide_eq_false (p := a < (n : Int) ∧ 0 < many ∧ many ≤ cntW W (n : Int)) (fun h => h1 h.1)]; rfl
    rw [this]
theorem grF_take {a b : Int} {f : Nat → Bool} {n : Nat} (h : (decide (a < (n : Int) ∧ (n : Int) < b) && f n) = true) : grF a b f (n + 1) = (n : Int) := by
  show (if _ then _ else _) = _
  rw [if_pos h]
theorem grF_skip {a b : Int} {f : Nat → Bool} {n : Nat} (h : ¬ (decide (a < (n : Int) ∧ (n : Int) < b) && f n) = true) : grF a b f (n + 1) = grF a b f n := by
  show (if _ then _ else _) = _
  rw [if_neg h]
end Go.Proofs.YtnhhbbjkeekneaaDoor
/- BC: bytes.Clone. -/
namespace Go.Proofs.YtnhhbbjkeekneaaDoor
open Go.RowKit Go.V
set_option maxRecDepth 100000 in
set_option maxHeartbeats 2000000 in
theorem bclone_any (bs : List UInt8) (F : Nat → Prop) (v : Value) (w : World) (h : Rd w F v (bys bs)) (hb : bs.length ≤ 1000000000) :
    Calls Tryd.prog 23 #[v] w fun e w' => ∃ v', e = .returned v' ∧ w'.ownsRow w.heap.size 5 1 v' bs.length (bvs bs) ∧ Below w.heap.size w w' := by
  obtain ⟨A, c, rfl⟩ := h.shape
  have hsr := h.src
  cases A with
  | none =>
    obtain ⟨h0, h1⟩ := hsr.none0
    have h2 : Hid (bs = []) := List.eq_nil_of_length_eq_zero h0
    rw [h0]
    clear h h0 h1 hsr
    have hnil := fun W : World => (by kernel_rfl : (Go.binOp BinOp.eql 37 (.slice none 0 c) (.slice none 0 0)).run Tryd.prog W = .ok (.bool true) W)
    go_enter Tryd.func23, Tryd.ntmps23
    go_wp2
    go_ret
    exact ⟨_, rfl, by rw [h2.out]; exact World.ownsRow_nil _ _ _ _, Below.refl _ _⟩
  | some ad =>
    have hnil := fun W : World => (by kernel_rfl : (Go.binOp BinOp.eql 37 (.slice (some ad) bs.length c) (.slice none 0 0)).run Tryd.prog W = .ok (.bool false) W)
    have Hbs := hid (fun W : World => (by kernel_rfl : (Instr.buildSlice 37 0 #[]).run Tryd.prog W = .ok (.slice (some ⟨W.heap.size, 0, none⟩) 0 0) (W.alloc (.cells #[] 5))))
    go_enter Tryd.func23, Tryd.ntmps23
    go_wp2_with (first | (refine wp_bs0 37 5 rfl rfl Hbs.out ?_; intro v9 w9 ho9 hB9; have hsr9 := (h.below hB9).src) | (refine wp_app (.tmp 5) (.tmp 6) slB rfl rfl rfl ho9 rfl hsr9 (oneCell_bvs _) (by simp only [maxLen]; omega) (by omega) hB9.size ?_; intro v8 w8 ho8 hG8 _; refine wp_stop ?_) | go_in)
    have hB8 : Below w.heap.size w w8 := hB9.grown hG8 hB9.size (fun k hk => (ho9.lt k hk).1)
    rw [List.nil_append, Nat.zero_add] at ho8
    obtain ⟨A8, c8, rfl⟩ := own_shape ho8
    clear ho9 hB9 hG8 hsr hsr9 h
    refine wp_go ?_
    go_wp2
    go_ret
    exact ⟨_, rfl, ho8, hB8⟩
end Go.Proofs.YtnhhbbjkeekneaaDoor
