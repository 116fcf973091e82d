/- OT: several texts in one (CA Xg BC OT). -/
import Derived.Test.YtnhhbbjkeekneaaGreatDoorCo
import Derived.Test.YtnhhbbjkeekneaaGreatDoorCq
import Derived.Test.YtnhhbbjkeekneaaGreatDoorVA
import Derived.Test.YtnhhbbjkeekneaaGreatDoorRB
/- CA: layer 17, pure: sets of members as words, and what is found among parts. -/
namespace Go.Proofs.YtnhhbbjkeekneaaGreatDoor
open Go.RowKit Go.V
/-- the message of a part that would count, if it were asked of its own regency -/
def fndC (ks : List (List UInt8)) (V : Vc) (q : Qc) (X : List UInt8) : Option Mg := match opOf ks V X with
  | .ok m => if m.v = V.n ∧ m.k = q.k ∧ m.v = q.v ∧ m.s = q.s ∧ m.h = q.h then some m else none
  | .error _ => none
theorem cnt_fnd (ks : List (List UInt8)) (V : Vc) (q : Qc) (X : List UInt8) : cntC ks V q X = match fndC ks V q X with
    | some m => if m.r = q.r then some m.f.toNat else none
    | none => none := by
  unfold cntC fndC
  cases opOf ks V X with
  | error e => rfl
  | ok m =>
    dsimp only
    by_cases h : m.v = V.n ∧ m.k = q.k ∧ m.v = q.v ∧ m.s = q.s ∧ m.h = q.h
    · rw [if_pos h]
      dsimp only
      by_cases hr : m.r = q.r
      · rw [if_pos hr, if_pos ⟨h.1, h.2.1, h.2.2.1, hr, h.2.2.2.1, h.2.2.2.2⟩]
      · rw [if_neg hr, if_neg (fun h' => hr h'.2.2.2.1)]
    · rw [if_neg h, if_neg (fun h' => h ⟨h'.1, h'.2.1, h'.2.2.1, h'.2.2.2.2.1, h'.2.2.2.2.2⟩)]
theorem fnd_bd {ks : List (List UInt8)} {V : Vc} {q : Qc} {X : List UInt8} {m : Mg} (h : fndC ks V q X = some m) : 0 ≤ m.f ∧ m.f < 16 ∧ 0 ≤ m.r ∧ m.r ≤ 40 := by
  unfold fndC at h
  split at h
  · rename_i m' hm
    split at h
    · injection h with h
      subst h
      unfold opOf at hm
      split at hm
      · rename_i m2 h2
        split at hm
        · injection hm with hm
          subst hm
          have := op_num h2
          unfold numB at this
          have := of_decide_eq_true this
          omega
        · cases hm
      · cases hm
    · cases h
  · cases h
theorem is_none {ks : List (List UInt8)} {V : Vc} {q : Qc} {X : List UInt8} (h : fndC ks V q X = none) (i : Nat) : isC ks V q i X = false := by
  have e : cntC ks V q X = none := by rw [cnt_fnd, h]
  unfold isC
  rw [e]
  rfl
theorem is_other {ks : List (List UInt8)} {V : Vc} {q : Qc} {X : List UInt8} {m : Mg} (h : fndC ks V q X = some m) (hr : m.r ≠ q.r) (i : Nat) : isC ks V q i X = false := by
  have e : cntC ks V q X = none := by rw [cnt_fnd, h]; exact if_neg hr
  unfold isC
  rw [e]
  rfl
theorem is_some {ks : List (List UInt8)} {V : Vc} {q : Qc} {X : List UInt8} {m : Mg} (h : fndC ks V q X = some m) (hr : m.r = q.r) (i : Nat) : isC ks V q i X = decide (i = m.f.toNat) := by
  have e : cntC ks V q X = some m.f.toNat := by rw [cnt_fnd, h]; exact if_pos hr
  unfold isC
  rw [e, Bool.eq_iff_iff, decide_eq_true_eq, decide_eq_true_eq, Option.some.injEq]
  exact ⟨fun h => h.symm, fun h => h.symm⟩
/-! sets as words -/
def putB (S i : Nat) : Nat := S ||| 2 ^ i
/-- the word S holds those below 16 of whom g is true -/
def SetW (S : Nat) (g : Nat → Bool) : Prop := S < 65536 ∧ ∀ i, i < 16 → mbit S i = g i
theorem putB_lt {S i : Nat} (hS : S < 65536) (hi : i < 16) : putB S i < 65536 := by
  unfold putB
  exact Nat.or_lt_two_pow (n := 16) hS (Nat.pow_lt_pow_right (by omega) hi)
theorem mbit_put (S i j : Nat) : mbit (putB S i) j = (mbit S j || decide (j = i)) := by
  unfold putB
  rw [mbit_test, mbit_test, Nat.testBit_or, Nat.testBit_two_pow]
  congr 1
  rw [Bool.eq_iff_iff, decide_eq_true_eq, decide_eq_true_eq]
  exact ⟨fun h => h.symm, fun h => h.symm⟩
theorem SetW.zero : SetW 0 (fun _ => false) := ⟨by omega, fun i _ => by unfold mbit; simp⟩
theorem SetW.congr {S : Nat} {g g' : Nat → Bool} (h : SetW S g) (e : ∀ i, i < 16 → g i = g' i) : SetW S g' := ⟨h.1, fun i hi => (h.2 i hi).trans (e i hi)⟩
theorem SetW.put {S i : Nat} {g : Nat → Bool} (h : SetW S g) (hi : i < 16) : SetW (putB S i) (fun j => g j || decide (j = i)) := ⟨putB_lt h.1 hi, fun j hj => by rw [mbit_put, h.2 j hj]⟩
theorem SetW.mem {S : Nat} {g : Nat → Bool} (h : SetW S g) : memL S 16 = (List.range 16).filter g := by
  unfold memL
  apply List.filter_congr
  intro i hi
  exact h.2 i (List.mem_range.1 hi)
theorem set_who {ks : List (List UInt8)} {V : Vc} {q : Qc} {P : List (List UInt8)} {S : Nat} (h : SetW S (fun i => P.any (isC ks V q i))) : memL S 16 = whoC ks V q P := h.mem
theorem set_sz {ks : List (List UInt8)} {V : Vc} {q : Qc} {P : List (List UInt8)} {S : Nat} (h : SetW S (fun i => P.any (isC ks V q i))) : szM S = (whoC ks V q P).length := by
  unfold szM
  rw [set_who h]
theorem or_bit17 (m x : Nat) (hm : m < 65536) (hx : x < 16) : bits BinOp.or IntKind.u16 (m : Int) (IntKind.u16.wrap (2 ^ x)) = ((putB m x : Nat) : Int) := by
  have hp : 2 ^ x ≤ 2 ^ 15 := Nat.pow_le_pow_right (by omega) (by omega)
  have e : IntKind.u16.wrap ((2 : Int) ^ x) = ((2 ^ x : Nat) : Int) := by
    obtain ⟨q, hq⟩ : ∃ q, q = 2 ^ x := ⟨_, rfl⟩
    rw [show (2 : Int) ^ x = ((2 ^ x : Nat) : Int) from by push_cast; rfl, ← hq, IntKind.wrap_u16]
    rw [← hq] at hp
    omega
  rw [e]
  exact u16_or_nat m (2 ^ x) hm (Nat.lt_of_le_of_lt hp (by omega))
/-! what is known of the first j parts -/
/-- of each member the first part that counts -/
def fstC (ks : List (List UInt8)) (V : Vc) (q : Qc) (P : List (List UInt8)) (i : Nat) : Option (List UInt8) := P.find? (isC ks V q i)
theorem fst_snoc (ks : List (List UInt8)) (V : Vc) (q : Qc) (P : List (List UInt8)) (X : List UInt8) (i : Nat) : fstC ks V q (P ++ [X]) i = match fstC ks V q P i with
    | some Y => some Y
    | none => if isC ks V q i X = true then some X else none := by
  unfold fstC
  rw [List.find?_append]
  cases P.find? (isC ks V q i) with
  | some Y => rfl
  | none =>
    dsimp only
    rw [List.find?_cons]
    cases isC ks V q i X <;> rfl
theorem fst_any (ks : List (List UInt8)) (V : Vc) (q : Qc) (P : List (List UInt8)) (i : Nat) : (fstC ks V q P i).isSome = P.any (isC ks V q i) := by
  unfold fstC
  rw [Bool.eq_iff_iff, List.find?_isSome, List.any_eq_true]
theorem any_snoc (ks : List (List UInt8)) (V : Vc) (q : Qc) (P : List (List UInt8)) (X : List UInt8) (i : Nat) : (P ++ [X]).any (isC ks V q i) = (P.any (isC ks V q i) || isC ks V q i X) := by
  rw [List.any_append]
  simp
/-- nothing found, or of another regency, or voted already: nothing changes -/
theorem set_same {ks : List (List UInt8)} {V : Vc} {q : Qc} {P : List (List UInt8)} {X : List UInt8} {S : Nat} (h : SetW S (fun i => P.any (isC ks V q i))) (hx : ∀ i, i < 16 → isC ks V q i X = true → P.any (isC ks V q i) = true) : SetW S (fun i => (P ++ [X]).any (isC ks V q i)) := by
  refine h.congr (fun i hi => ?_)
  rw [any_snoc]
  cases hc : isC ks V q i X with
  | false => rw [Bool.or_false]
  | true => rw [hx i hi hc]; rfl
theorem fst_same {ks : List (List UInt8)} {V : Vc} {q : Qc} {P : List (List UInt8)} {X : List UInt8} (hx : ∀ i, i < 16 → isC ks V q i X = true → P.any (isC ks V q i) = true) (i : Nat) (hi : i < 16) : fstC ks V q (P ++ [X]) i = fstC ks V q P i := by
  rw [fst_snoc]
  cases hf : fstC ks V q P i with
  | some Y => rfl
  | none =>
    dsimp only
    cases hc : isC ks V q i X with
    | false => rfl
    | true =>
      have h1 := hx i hi hc
      rw [← fst_any, hf] at h1
      cases h1
/-- voted for the first time -/
theorem set_new {ks : List (List UInt8)} {V : Vc} {q : Qc} {P : List (List UInt8)} {X : List UInt8} {S a : Nat} (h : SetW S (fun i => P.any (isC ks V q i))) (ha : a < 16) (hx : ∀ i, isC ks V q i X = decide (i = a)) : SetW (putB S a) (fun i => (P ++ [X]).any (isC ks V q i)) := by
  refine (h.put ha).congr (fun i hi => ?_)
  rw [any_snoc, hx]
theorem fst_new {ks : List (List UInt8)} {V : Vc} {q : Qc} {P : List (List UInt8)} {X : List UInt8} {a : Nat} (hn : P.any (isC ks V q a) = false) (hx : ∀ i, isC ks V q i X = decide (i = a)) (i : Nat) : fstC ks V q (P ++ [X]) i = if i = a then some X else fstC ks V q P i := by
  rw [fst_snoc, hx]
  by_cases hi : i = a
  · subst hi
    rw [if_pos rfl]
    have := fst_any ks V q P i
    rw [hn] at this
    cases hf : fstC ks V q P i with
    | some Y => rw [hf] at this; cases this
    | none => simp
  · rw [if_neg hi]
    cases fstC ks V q P i with
    | some Y => rfl
    | none => simp [hi]
end Go.Proofs.YtnhhbbjkeekneaaGreatDoor
/- Xg: layer 19, pure: the landed words: who wants each regency. -/
namespace Go.Proofs.YtnhhbbjkeekneaaGreatDoor
open Go.RowKit Go.V
/-- of each regency the word of those who want it -/
structure WdS (W T : List Nat) : Prop where
  len : T.length = 41
  at_ : ∀ (r S : Nat), T[r]? = some S → SetW S (fun i => decide (r < W.getD i 0))
/-- the same, amid a Take: member f wants those below j too -/
structure WdJ (W T : List Nat) (f j : Nat) : Prop where
  len : T.length = 41
  at_ : ∀ (r S : Nat), T[r]? = some S → SetW S (fun i => decide (r < W.getD i 0) || (decide (i = f) && decide (r < j)))
def zT19 : List Nat := List.replicate 41 0
theorem w0_get (i : Nat) : w0W.getD i 0 = 0 := by
  unfold w0W
  rw [List.getD_eq_getElem?_getD, List.getElem?_replicate]
  split <;> rfl
theorem WdS.zero : WdS w0W zT19 := ⟨by simp [zT19], fun r S hS => by
  have h0 : S = 0 := by unfold zT19 at hS; rw [List.getElem?_replicate] at hS; split at hS; injection hS with hS; exact hS.symm; cases hS
  subst h0
  refine SetW.zero.congr (fun i _ => ?_)
  rw [w0_get]
  simp⟩
theorem WdS.j0 {W T : List Nat} (h : WdS W T) (f : Nat) : WdJ W T f 0 := ⟨h.len, fun r S hS => (h.at_ r S hS).congr (fun i _ => by simp)⟩
theorem WdJ.put {W T : List Nat} {f j S : Nat} (h : WdJ W T f j) (hf : f < 16) (hS : T[j]? = some S) : WdJ W (T.set j (putB S f)) f (j + 1) := ⟨by rw [List.length_set]; exact h.len, fun r S' hS' => by
  by_cases he : r = j
  · subst he
    rw [List.getElem?_set_self (List.getElem?_eq_some_iff.1 hS).1] at hS'
    injection hS' with hS'
    subst hS'
    refine ((h.at_ r S hS).put hf).congr (fun i _ => ?_)
    cases decide (r < W.getD i 0) <;> cases h2 : decide (i = f) <;> simp
  · rw [List.getElem?_set_ne (fun h => he h.symm)] at hS'
    refine (h.at_ r S' hS').congr (fun i _ => ?_)
    have : decide (r < j) = decide (r < j + 1) := by
      by_cases h : r < j
      · rw [decide_eq_true h, decide_eq_true (by omega)]
      · rw [decide_eq_false h, decide_eq_false (by omega)]
    rw [this]⟩
theorem WdJ.done {W T : List Nat} {f r : Nat} (h : WdJ W T f (r + 1)) (hW : W.length = 16) (hf : f < 16) (hr : W.getD f 0 ≤ r) : WdS (W.set f (r + 1)) T := ⟨h.len, fun q S hS => (h.at_ q S hS).congr (fun i _ => by
  by_cases hi : i = f
  · subst hi
    have e1 : (W.set i (r + 1)).getD i 0 = r + 1 := by
      rw [List.getD_eq_getElem?_getD, List.getElem?_set_self (by omega)]; rfl
    rw [e1]
    by_cases hq : q < r + 1
    · simp [hq]
    · have : ¬ q < W.getD i 0 := by omega
      rw [decide_eq_false this, decide_eq_false hq, Bool.and_false]; rfl
  · have e1 : (W.set f (r + 1)).getD i 0 = W.getD i 0 := by
      rw [List.getD_eq_getElem?_getD, List.getD_eq_getElem?_getD, List.getElem?_set_ne (fun h => hi h.symm)]
    rw [e1]
    simp [hi])⟩
theorem list_get : ∀ (W : List Nat), W = (List.range W.length).map (fun i => W.getD i 0) := by
  intro W
  apply List.ext_getElem?
  intro i
  rw [List.getElem?_map]
  by_cases h : i < W.length
  · rw [List.getElem?_range h]
    simp [List.getElem?_eq_getElem h]
  · rw [List.getElem?_eq_none (by omega), List.getElem?_eq_none (by simp; omega)]
    rfl
theorem WdS.cnt {W T : List Nat} {r S : Nat} (h : WdS W T) (hW : W.length = 16) (hS : T[r]? = some S) : szM S = cntW W (r : Int) := by
  unfold szM cntW
  rw [(h.at_ r S hS).mem]
  have e := list_get W
  rw [hW] at e
  conv => rhs; rw [e]
  rw [List.filter_map, List.length_map]
  congr 1
  refine congrFun (congrArg _ (funext (fun i => ?_))) _
  show decide (r < W.getD i 0) = decide (0 < W.getD i 0 ∧ (r : Int) ≤ (W.getD i 0 : Int) - 1)
  by_cases h : r < W.getD i 0
  · rw [decide_eq_true h, decide_eq_true (by omega)]
  · rw [decide_eq_false h, decide_eq_false (by omega)]
/-- the greatest below n for which it holds, above one and below the other -/
def grF (a b : Int) (f : Nat → Bool) : Nat → Int
  | 0 => -1
  | n + 1 => if (decide (a < (n : Int) ∧ (n : Int) < b) && f n) = true then (n : Int) else grF a b f n
theorem gr_gr {a : Int} {f : Nat → Bool} {W : List Nat} {many : Nat} (hm : 0 < many) : ∀ (n : Nat), n ≤ 41 → (∀ r, r < n → f r = decide (many ≤ cntW W (r : Int))) → grF a 41 f n = gW W a many n
  | 0, _, _ => rfl
  | n + 1, hn, h => by
    unfold grF gW
    have ih := gr_gr (a := a) hm n (by omega) (fun r hr => h r (by omega))
    rw [ih, h n (by omega)]
    have : (decide (a < (n : Int) ∧ (n : Int) < 41) && decide (many ≤ cntW W (n : Int))) = isW W a many n := by
      unfold isW
      by_cases h1 : a < (n : Int)
      · by_cases h2 : many ≤ cntW W (n : Int)
        · rw [decide_eq_true h2, decide_eq_true ⟨h1, by omega⟩, decide_eq_true ⟨h1, hm, h2⟩]; rfl
        · rw [decide_eq_false h2, decide_eq_false (p := a < (n : Int) ∧ 0 < many ∧ many ≤ cntW W (n : Int)) (fun h => h2 h.2.2), Bool.and_false]
      · rw [decide_eq_false (p := a < (n : Int) ∧ (n : Int) < 41) (fun h => h1 h.1), decide_eq_false (p := a < (n : Int) ∧ 0 < many ∧ many ≤ cntW W (n : Int)) (fun h => h1 h.1)]; rfl
    rw [this]
theorem grF_take {a b : Int} {f : Nat → Bool} {n : Nat} (h : (decide (a < (n : Int) ∧ (n : Int) < b) && f n) = true) : grF a b f (n + 1) = (n : Int) := by
  show (if _ then _ else _) = _
  rw [if_pos h]
theorem grF_skip {a b : Int} {f : Nat → Bool} {n : Nat} (h : ¬ (decide (a < (n : Int) ∧ (n : Int) < b) && f n) = true) : grF a b f (n + 1) = grF a b f n := by
  show (if _ then _ else _) = _
  rw [if_neg h]
end Go.Proofs.YtnhhbbjkeekneaaGreatDoor
/- BC: bytes.Clone. -/
namespace Go.Proofs.YtnhhbbjkeekneaaGreatDoor
open Go.RowKit Go.V
set_option maxRecDepth 100000 in
set_option maxHeartbeats 2000000 in
theorem bclone_any (bs : List UInt8) (F : Nat → Prop) (v : Value) (w : World) (h : Rd w F v (bys bs)) (hb : bs.length ≤ 1000000000) :
    Calls Tryz.prog 64 #[v] w fun e w' => ∃ v', e = .returned v' ∧ w'.ownsRow w.heap.size 5 1 v' bs.length (bvs bs) ∧ Below w.heap.size w w' := by
  obtain ⟨A, c, rfl⟩ := h.shape
  have hsr := h.src
  cases A with
  | none =>
    obtain ⟨h0, h1⟩ := hsr.none0
    have h2 : Hid (bs = []) := List.eq_nil_of_length_eq_zero h0
    rw [h0]
    clear h h0 h1 hsr
    have hnil := fun W : World => (by kernel_rfl : (Go.binOp BinOp.eql 33 (.slice none 0 c) (.slice none 0 0)).run Tryz.prog W = .ok (.bool true) W)
    go_enter Tryz.func64, Tryz.ntmps64
    go_wp2
    go_ret
    exact ⟨_, rfl, by rw [h2.out]; exact World.ownsRow_nil _ _ _ _, Below.refl _ _⟩
  | some ad =>
    have hnil := fun W : World => (by kernel_rfl : (Go.binOp BinOp.eql 33 (.slice (some ad) bs.length c) (.slice none 0 0)).run Tryz.prog W = .ok (.bool false) W)
    have Hbs := hid (fun W : World => (by kernel_rfl : (Instr.buildSlice 33 0 #[]).run Tryz.prog W = .ok (.slice (some ⟨W.heap.size, 0, none⟩) 0 0) (W.alloc (.cells #[] 5))))
    go_enter Tryz.func64, Tryz.ntmps64
    go_wp2_with (first | (refine wp_bs0 33 5 rfl rfl Hbs.out ?_; intro v9 w9 ho9 hB9; have hsr9 := (h.below hB9).src) | (refine wp_app (.tmp 5) (.tmp 6) slB rfl rfl rfl ho9 rfl hsr9 (oneCell_bvs _) (by simp only [maxLen]; omega) (by omega) hB9.size ?_; intro v8 w8 ho8 hG8 _; refine wp_stop ?_) | go_in)
    have hB8 : Below w.heap.size w w8 := hB9.grown hG8 hB9.size (fun k hk => (ho9.lt k hk).1)
    rw [List.nil_append, Nat.zero_add] at ho8
    obtain ⟨A8, c8, rfl⟩ := own_shape ho8
    clear ho9 hB9 hG8 hsr hsr9 h
    refine wp_go ?_
    go_wp2
    go_ret
    exact ⟨_, rfl, ho8, hB8⟩
end Go.Proofs.YtnhhbbjkeekneaaGreatDoor
/- OT: rows of texts of one's own, beside what else may change. No project text. -/
namespace Go.V
open Go.RowKit
theorem own_keepO {w w' : World} {base : Nat} {e : TypeId} {s : Nat} {v : Value} {n : Nat} {xs : List Value} (h : w.ownsRow base e s v n xs) (hk : ∀ k, k < w.heap.size → v.ownBlock = some k → w'.heap[k]? = w.heap[k]?) : w'.ownsRow base e s v n xs := by
  obtain ⟨h1, h2⟩ := h
  refine ⟨h1, ?_⟩
  rcases h2 with h | ⟨g, cap, cur, rfl, hg, hh, h3⟩
  · exact .inl h
  · exact .inr ⟨g, cap, cur, rfl, hg, (hk g (lt_of_block hh) rfl).trans hh, h3⟩
/-- a row of texts of one's own, that lies beside what else may change (Z) -/
structure OT (w : World) (e : TypeId) (base : Nat) (Z : Nat → Prop) (av : Value) (l : List (List UInt8)) (us : List Value) : Prop where
  own : w.ownsRow base e 1 av l.length us
  x : TxX w (fun b => base ≤ b ∧ ¬ Z b ∧ av.ownBlock ≠ some b) l us
  z : ∀ b, av.ownBlock = some b → ¬ Z b
theorem OT.nil (w : World) (e : TypeId) (base : Nat) (Z : Nat → Prop) : OT w e base Z (.slice none 0 0) [] [] := ⟨World.ownsRow_nil _ _ _ _, TxX.nil _ _, fun b e => by cases e⟩
theorem OT.ch {w w' : World} {e : TypeId} {base : Nat} {Z G : Nat → Prop} {av : Value} {l : List (List UInt8)} {us : List Value} (h : OT w e base Z av l us) (hC : Ch G w w') (hG : ∀ b, G b → Z b ∨ b < base) : OT w' e base Z av l us :=
  ⟨own_keepO h.own (fun k hk e => hC.block k hk (fun hg => (hG k hg).elim (h.z k e) (fun h2 => by have := (h.own.lt k e).1; omega))),
   h.x.keep (fun b hb hF => ⟨hF, hC.block b hb (fun hg => (hG b hg).elim hF.2.1 (fun h2 => by have := hF.1; omega))⟩), h.z⟩
theorem OT.pushG {w w' : World} {e : TypeId} {base : Nat} {Z : Nat → Prop} {av v' u : Value} {l : List (List UInt8)} {us : List Value} {t : List UInt8} (h : OT w e base Z av l us) (hu : Rd w (fun b => base ≤ b ∧ ¬ Z b ∧ av.ownBlock ≠ some b) u (bys t)) (hZ : ∀ b, Z b → b < w.heap.size)
    (ho : w'.ownsRow base e 1 v' (l.length + 1) (us ++ [u])) (hG : w.grownBy w' av.ownBlock) (hd : v'.ownBlock = av.ownBlock ∨ ∃ g, v'.ownBlock = some g ∧ w.heap.size ≤ g) : OT w' e base Z v' (l ++ [t]) (us ++ [u]) := by
  have hk : ∀ b, b < w.heap.size → base ≤ b ∧ ¬ Z b ∧ av.ownBlock ≠ some b → (base ≤ b ∧ ¬ Z b ∧ v'.ownBlock ≠ some b) ∧ w'.heap[b]? = w.heap[b]? := fun b hb h1 =>
    ⟨⟨h1.1, h1.2.1, fun e2 => hd.elim (fun hd => h1.2.2 (by rw [← hd]; exact e2)) (fun ⟨g, hd, hg⟩ => by rw [hd] at e2; injection e2 with e2; omega)⟩, hG.block b hb (fun e2 => h1.2.2 e2.symm)⟩
  refine ⟨by rw [List.length_append]; exact ho, (h.x.keep hk).snoc (hu.keep hk), fun b e2 hz => ?_⟩
  rcases hd with hd | ⟨g, hd, hg⟩
  · exact h.z b (by rw [← hd]; exact e2) hz
  · rw [hd] at e2; injection e2 with e2; have := hZ b hz; omega
theorem OT.rd {w : World} {e : TypeId} {base : Nat} {Z : Nat → Prop} {av : Value} {l : List (List UInt8)} {us : List Value} (h : OT w e base Z av l us) : Rd w (fun b => base ≤ b) av (tx l) := tx_own h.own h.x (fun _ h => h.1)
end Go.V
