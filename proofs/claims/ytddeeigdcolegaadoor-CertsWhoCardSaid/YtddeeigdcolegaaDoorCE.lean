/- CE: several texts in one (CA CB CD CE). -/
import Derived.Test.YtddeeigdcolegaaDoorCo
import Derived.Test.YtddeeigdcolegaaDoorW3
import Derived.Test.YtddeeigdcolegaaDoorS6
import Derived.Deep.DeepCutAuto
import Derived.Deep.RegionHeld3
import Derived.Test.YtddeeigdcolegaaDoorCz
/- CA: layer 17, pure: sets of members as words, and what is found among parts. -/
namespace Go.Proofs.YtddeeigdcolegaaDoor
open Go.RowKit Go.V
/-- the message of a part that would count, if it were asked of its own regency -/
def fndC (ks : List (List UInt8)) (V : Vc) (q : Qc) (X : List UInt8) : Option Mg := match opOf ks V X with
  | .ok m => if m.v = V.n ∧ m.k = q.k ∧ m.v = q.v ∧ m.s = q.s ∧ m.h = q.h then some m else none
  | .error _ => none
theorem cnt_fnd (ks : List (List UInt8)) (V : Vc) (q : Qc) (X : List UInt8) : cntC ks V q X = match fndC ks V q X with
    | some m => if m.r = q.r then some m.f.toNat else none
    | none => none := by
  unfold cntC fndC
  cases opOf ks V X with
  | error e => rfl
  | ok m =>
    dsimp only
    by_cases h : m.v = V.n ∧ m.k = q.k ∧ m.v = q.v ∧ m.s = q.s ∧ m.h = q.h
    · rw [if_pos h]
      dsimp only
      by_cases hr : m.r = q.r
      · rw [if_pos hr, if_pos ⟨h.1, h.2.1, h.2.2.1, hr, h.2.2.2.1, h.2.2.2.2⟩]
      · rw [if_neg hr, if_neg (fun h' => hr h'.2.2.2.1)]
    · rw [if_neg h, if_neg (fun h' => h ⟨h'.1, h'.2.1, h'.2.2.1, h'.2.2.2.2.1, h'.2.2.2.2.2⟩)]
theorem fnd_bd {ks : List (List UInt8)} {V : Vc} {q : Qc} {X : List UInt8} {m : Mg} (h : fndC ks V q X = some m) : 0 ≤ m.f ∧ m.f < 16 ∧ 0 ≤ m.r ∧ m.r ≤ 40 := by
  unfold fndC at h
  split at h
  · rename_i m' hm
    split at h
    · injection h with h
      subst h
      unfold opOf at hm
      split at hm
      · rename_i m2 h2
        split at hm
        · injection hm with hm
          subst hm
          have := op_num h2
          unfold numB at this
          have := of_decide_eq_true this
          omega
        · cases hm
      · cases hm
    · cases h
  · cases h
theorem is_none {ks : List (List UInt8)} {V : Vc} {q : Qc} {X : List UInt8} (h : fndC ks V q X = none) (i : Nat) : isC ks V q i X = false := by
  have e : cntC ks V q X = none := by rw [cnt_fnd, h]
  unfold isC
  rw [e]
  rfl
theorem is_other {ks : List (List UInt8)} {V : Vc} {q : Qc} {X : List UInt8} {m : Mg} (h : fndC ks V q X = some m) (hr : m.r ≠ q.r) (i : Nat) : isC ks V q i X = false := by
  have e : cntC ks V q X = none := by rw [cnt_fnd, h]; exact if_neg hr
  unfold isC
  rw [e]
  rfl
theorem is_some {ks : List (List UInt8)} {V : Vc} {q : Qc} {X : List UInt8} {m : Mg} (h : fndC ks V q X = some m) (hr : m.r = q.r) (i : Nat) : isC ks V q i X = decide (i = m.f.toNat) := by
  have e : cntC ks V q X = some m.f.toNat := by rw [cnt_fnd, h]; exact if_pos hr
  unfold isC
  rw [e, Bool.eq_iff_iff, decide_eq_true_eq, decide_eq_true_eq, Option.some.injEq]
  exact ⟨fun h => h.symm, fun h => h.symm⟩
/-! sets as words -/
def putB (S i : Nat) : Nat := S ||| 2 ^ i
/-- the word S holds those below 16 of whom g is true -/
def SetW (S : Nat) (g : Nat → Bool) : Prop := S < 65536 ∧ ∀ i, i < 16 → mbit S i = g i
theorem putB_lt {S i : Nat} (hS : S < 65536) (hi : i < 16) : putB S i < 65536 := by
  unfold putB
  exact Nat.or_lt_two_pow (n := 16) hS (Nat.pow_lt_pow_right (by omega) hi)
theorem mbit_put (S i j : Nat) : mbit (putB S i) j = (mbit S j || decide (j = i)) := by
  unfold putB
  rw [mbit_test, mbit_test, Nat.testBit_or, Nat.testBit_two_pow]
  congr 1
  rw [Bool.eq_iff_iff, decide_eq_true_eq, decide_eq_true_eq]
  exact ⟨fun h => h.symm, fun h => h.symm⟩
theorem SetW.zero : SetW 0 (fun _ => false) := ⟨by omega, fun i _ => by unfold mbit; simp⟩
theorem SetW.congr {S : Nat} {g g' : Nat → Bool} (h : SetW S g) (e : ∀ i, i < 16 → g i = g' i) : SetW S g' := ⟨h.1, fun i hi => (h.2 i hi).trans (e i hi)⟩
theorem SetW.put {S i : Nat} {g : Nat → Bool} (h : SetW S g) (hi : i < 16) : SetW (putB S i) (fun j => g j || decide (j = i)) := ⟨putB_lt h.1 hi, fun j hj => by rw [mbit_put, h.2 j hj]⟩
theorem SetW.mem {S : Nat} {g : Nat → Bool} (h : SetW S g) : memL S 16 = (List.range 16).filter g := by
  unfold memL
  apply List.filter_congr
  intro i hi
  exact h.2 i (List.mem_range.1 hi)
theorem set_who {ks : List (List UInt8)} {V : Vc} {q : Qc} {P : List (List UInt8)} {S : Nat} (h : SetW S (fun i => P.any (isC ks V q i))) : memL S 16 = whoC ks V q P := h.mem
theorem set_sz {ks : List (List UInt8)} {V : Vc} {q : Qc} {P : List (List UInt8)} {S : Nat} (h : SetW S (fun i => P.any (isC ks V q i))) : szM S = (whoC ks V q P).length := by
  unfold szM
  rw [set_who h]
theorem or_bit17 (m x : Nat) (hm : m < 65536) (hx : x < 16) : bits BinOp.or IntKind.u16 (m : Int) (IntKind.u16.wrap (2 ^ x)) = ((putB m x : Nat) : Int) := by
  have hp : 2 ^ x ≤ 2 ^ 15 := Nat.pow_le_pow_right (by omega) (by omega)
  have e : IntKind.u16.wrap ((2 : Int) ^ x) = ((2 ^ x : Nat) : Int) := by
    obtain ⟨q, hq⟩ : ∃ q, q = 2 ^ x := ⟨_, rfl⟩
    rw [show (2 : Int) ^ x = ((2 ^ x : Nat) : Int) from by push_cast; rfl, ← hq, IntKind.wrap_u16]
    rw [← hq] at hp
    omega
  rw [e]
  exact u16_or_nat m (2 ^ x) hm (Nat.lt_of_le_of_lt hp (by omega))
/-! what is known of the first j parts -/
/-- of each member the first part that counts -/
def fstC (ks : List (List UInt8)) (V : Vc) (q : Qc) (P : List (List UInt8)) (i : Nat) : Option (List UInt8) := P.find? (isC ks V q i)
theorem fst_snoc (ks : List (List UInt8)) (V : Vc) (q : Qc) (P : List (List UInt8)) (X : List UInt8) (i : Nat) : fstC ks V q (P ++ [X]) i = match fstC ks V q P i with
    | some Y => some Y
    | none => if isC ks V q i X = true then some X else none := by
  unfold fstC
  rw [List.find?_append]
  cases P.find? (isC ks V q i) with
  | some Y => rfl
  | none =>
    dsimp only
    rw [List.find?_cons]
    cases isC ks V q i X <;> rfl
theorem fst_any (ks : List (List UInt8)) (V : Vc) (q : Qc) (P : List (List UInt8)) (i : Nat) : (fstC ks V q P i).isSome = P.any (isC ks V q i) := by
  unfold fstC
  rw [Bool.eq_iff_iff, List.find?_isSome, List.any_eq_true]
theorem any_snoc (ks : List (List UInt8)) (V : Vc) (q : Qc) (P : List (List UInt8)) (X : List UInt8) (i : Nat) : (P ++ [X]).any (isC ks V q i) = (P.any (isC ks V q i) || isC ks V q i X) := by
  rw [List.any_append]
  simp
/-- nothing found, or of another regency, or voted already: nothing changes -/
theorem set_same {ks : List (List UInt8)} {V : Vc} {q : Qc} {P : List (List UInt8)} {X : List UInt8} {S : Nat} (h : SetW S (fun i => P.any (isC ks V q i))) (hx : ∀ i, i < 16 → isC ks V q i X = true → P.any (isC ks V q i) = true) : SetW S (fun i => (P ++ [X]).any (isC ks V q i)) := by
  refine h.congr (fun i hi => ?_)
  rw [any_snoc]
  cases hc : isC ks V q i X with
  | false => rw [Bool.or_false]
  | true => rw [hx i hi hc]; rfl
theorem fst_same {ks : List (List UInt8)} {V : Vc} {q : Qc} {P : List (List UInt8)} {X : List UInt8} (hx : ∀ i, i < 16 → isC ks V q i X = true → P.any (isC ks V q i) = true) (i : Nat) (hi : i < 16) : fstC ks V q (P ++ [X]) i = fstC ks V q P i := by
  rw [fst_snoc]
  cases hf : fstC ks V q P i with
  | some Y => rfl
  | none =>
    dsimp only
    cases hc : isC ks V q i X with
    | false => rfl
    | true =>
      have h1 := hx i hi hc
      rw [← fst_any, hf] at h1
      cases h1
/-- voted for the first time -/
theorem set_new {ks : List (List UInt8)} {V : Vc} {q : Qc} {P : List (List UInt8)} {X : List UInt8} {S a : Nat} (h : SetW S (fun i => P.any (isC ks V q i))) (ha : a < 16) (hx : ∀ i, isC ks V q i X = decide (i = a)) : SetW (putB S a) (fun i => (P ++ [X]).any (isC ks V q i)) := by
  refine (h.put ha).congr (fun i hi => ?_)
  rw [any_snoc, hx]
theorem fst_new {ks : List (List UInt8)} {V : Vc} {q : Qc} {P : List (List UInt8)} {X : List UInt8} {a : Nat} (hn : P.any (isC ks V q a) = false) (hx : ∀ i, isC ks V q i X = decide (i = a)) (i : Nat) : fstC ks V q (P ++ [X]) i = if i = a then some X else fstC ks V q P i := by
  rw [fst_snoc, hx]
  by_cases hi : i = a
  · subst hi
    rw [if_pos rfl]
    have := fst_any ks V q P i
    rw [hn] at this
    cases hf : fstC ks V q P i with
    | some Y => rw [hf] at this; cases this
    | none => simp
  · rw [if_neg hi]
    cases fstC ks V q P i with
    | some Y => rfl
    | none => simp [hi]
theorem pick_fst (ks : List (List UInt8)) (V : Vc) (q : Qc) (P : List (List UInt8)) : pickC ks V q P = (whoC ks V q P).filterMap (fstC ks V q P) := by
  unfold pickC whoC
  rw [List.filterMap_filter]
  congr 1
  funext i
  have := fst_any ks V q P i
  show fstC ks V q P i = _
  cases hf : fstC ks V q P i with
  | some Y => rw [hf] at this; rw [← this]; rfl
  | none => rw [hf] at this; rw [← this]; rfl
theorem who_fst {ks : List (List UInt8)} {V : Vc} {q : Qc} {P : List (List UInt8)} {i : Nat} (h : i ∈ whoC ks V q P) : ∃ X, fstC ks V q P i = some X ∧ X ∈ P ∧ i < 16 := by
  unfold whoC at h
  rw [List.mem_filter, List.mem_range, ← fst_any] at h
  obtain ⟨X, hX⟩ := Option.isSome_iff_exists.1 h.2
  exact ⟨X, hX, List.mem_of_find?_eq_some hX, h.1⟩
end Go.Proofs.YtddeeigdcolegaaDoor
/- CB: layer 17, contracts of certs' small functions: members of a set, quorums, what may prove; what finds votes. -/
namespace Go.Proofs.YtddeeigdcolegaaDoor
open Go.RowKit Go.V
theorem mem17_any (S : Nat) (w : World) (h : S < 65536) :
    Calls Tryd.prog 24 #[.int .u16 (S : Int)] w fun e w' => ∃ v', e = .returned v' ∧ NewI w w' v' (memL S 16) := by
  have hm := fun W => members_any 0 S W h
  unfold vw at hm
  go_enter Tryd.func24, Tryd.ntmps24
  go_wp2_with (fail)
  refine (hm _).mono ?_
  rintro e w1 ⟨v1, rfl, ho, hB⟩
  obtain ⟨A, c, rfl⟩ := own_shape ho
  go_wp2
  go_ret
  exact ⟨_, rfl, ho, hB⟩
set_option maxRecDepth 100000 in
set_option maxHeartbeats 1000000 in
theorem isq17_any (n : Int) (M S : Nat) (w : World) (h : M < 65536) (hS : S < 65536) :
    Calls Tryd.prog 30 #[vw n M, .int .u16 (S : Int)] w fun e w' => e = .returned (.bool (decide (quoN n M ≤ szM S))) ∧ Below w.heap.size w w' := by
  have hquo := (quo_any n M · h)
  have hone : ∀ W : World, Calls Tryd.prog 40 #[.int .u16 (S : Int)] W fun e w' => e = .returned (.int .i64 (szM S : Int)) ∧ Below W.heap.size W w' := fun W => (ones_any S W hS).mono (by rintro e w1 ⟨rfl, k, rfl⟩; exact ⟨rfl, below_drewN (Below.refl _ _) k⟩)
  have hbv := Blk.new' w 24 [.int .i64 n, .int .u16 (M : Int)]
  have hB : Below w.heap.size w (w.alloc (.cells #[.int .i64 n, .int .u16 (M : Int)] 24)) := (Below.refl _ _).alloc (Nat.le_refl _) _
  unfold vw at hquo ⊢
  obtain ⟨wq, hwq⟩ : ∃ x, x = w.alloc (.cells #[.int .i64 n, .int .u16 (M : Int)] 24) := ⟨_, rfl⟩
  rw [← hwq] at hbv hB
  obtain ⟨q, hq⟩ : ∃ q, q = quoN n M := ⟨_, rfl⟩
  rw [← hq] at hquo ⊢
  obtain ⟨s, hs⟩ : ∃ s, s = szM S := ⟨_, rfl⟩
  rw [← hs] at hone ⊢
  clear hq hs
  have HV : Hid (∀ W, Ch nob wq W → W.rangeAt w.heap.size 0 [.int .i64 n, .int .u16 (M : Int)]) := fun W h => hbv.chAt (fun h => h) h
  obtain ⟨d, hd⟩ : ∃ d, d = decide (q ≤ s) := ⟨_, rfl⟩
  have Hd : Hid (decide (q ≤ s) = d) := hid hd.symm
  rw [← hd]
  obtain ⟨g, hg⟩ : ∃ g, g = w.heap.size := ⟨_, rfl⟩
  rw [← hg] at HV
  have Hg := hid hg
  clear hbv hd hg
  go_enter Tryd.func30, Tryd.ntmps30
  go_upto_region 1 with (fail)
  first | rw [← hwq] | (simp only [List.toArray] at hwq ⊢; rw [← hwq])
  rw [← Hg.out]
  clear hwq
  refine wp_region_noPanic ?_
  refine wp_region_held_drew (S := Ch nob wq) (by kernel_rfl) ((Ch.refl _ _).drew) (fun hHeld => ?_)
  refine wpAnyH_take (i := 0) (oi := ⟨some 5, _, _, _, _, none⟩) (v := ?_) rfl (by kernel_rfl) (by kernel_rfl) (by kernel_rfl) (fun _ _ _ h => h) (Or.inl ⟨by rfl, ?_⟩) (by assumption) ?_
  rotate_left
  · intro w hSw; go_simp; try with_reducible rfl
  try simp only [Act.put, List.setIfInBounds_toArray, List.set_cons_zero, List.set_cons_succ]
  refine wpAnyH_take (i := 2) (oi := ⟨some 7, .load 24 (.tmp 2), _, _, _, none⟩) (v := _) rfl (by kernel_rfl) (by kernel_rfl) (by kernel_rfl) (fun _ _ _ h => h) (yieldsIf_load_mid (by rfl) 24 (.tmp 2) (by rfl) _ (0) (by rfl) _ _ (fun _ hs => HV.out _ hs) Tryd.underlying24 rfl (sizeV)) (by assumption) ?_
  try simp only [Act.put, List.setIfInBounds_toArray, List.set_cons_zero, List.set_cons_succ]
  refine wpAnyH_ready (rs := [1]) (by kernel_rfl) (by simp) ?_
  refine AllReadyH.cons (o := ⟨some 6, _, _, _, _, none⟩) rfl (fun K hK => ?_) AllReadyH.nil
  go_simp
  refine (hone _).mono ?_
  rintro e' w11 ⟨rfl, hB11⟩
  have hC11 := hHeld.belowR hB11
  refine hK.out _ _ (hC11) (fun hHeld => ?_)
  clear hK K
  try simp only [Act.put, List.setIfInBounds_toArray, List.set_cons_zero, List.set_cons_succ]
  refine wpAnyH_ready (rs := [3]) (by kernel_rfl) (by simp) ?_
  refine AllReadyH.cons (o := ⟨some 8, _, _, _, _, none⟩) rfl (fun K hK => ?_) AllReadyH.nil
  go_simp
  refine (hquo _).mono ?_
  rintro e' w12 ⟨rfl, hB12⟩
  have hC12 := hC11.belowR hB12
  refine hK.out _ _ (hC12) (fun hHeld => ?_)
  clear hK K
  try simp only [Act.put, List.setIfInBounds_toArray, List.set_cons_zero, List.set_cons_succ]
  refine wpAnyH_take (i := 4) (oi := ⟨some 9, _, _, _, _, none⟩) (v := ?_) rfl (by kernel_rfl) (by kernel_rfl) (by kernel_rfl) (fun _ _ _ h => h) (Or.inl ⟨by rfl, ?_⟩) (by assumption) ?_
  rotate_left
  · intro w hSw; go_simp; try with_reducible rfl
  try simp only [Act.put, List.setIfInBounds_toArray, List.set_cons_zero, List.set_cons_succ]
  refine wpAnyH_take (i := 5) (oi := ⟨some 4, _, _, _, _, none⟩) (v := ?_) rfl (by kernel_rfl) (by kernel_rfl) (by kernel_rfl) (fun _ _ _ h => h) (Or.inl ⟨by rfl, ?_⟩) (by assumption) ?_
  rotate_left
  · intro w hSw; go_simp; try with_reducible rfl
  try simp only [Act.put, List.setIfInBounds_toArray, List.set_cons_zero, List.set_cons_succ]
  refine wpAnyH_done (by kernel_rfl) ?_ _
  refine NoPanic.normal ?_
  go_wp2
  go_ret
  exact ⟨ret_b Hd.out, hB.trans (hHeld.below.mono hB.size)⟩
set_option maxHeartbeats 1000000 in
theorem mayp17_any (n : Int) (M : Nat) (P : List (List UInt8)) (A : Option Addr) (c : Nat) (w : World) (h : M < 65536) (hP : P.length ≤ 1000) :
    Calls Tryd.prog 28 #[vw n M, .slice A P.length c] w fun e w' => e = .returned (.bool (okC ⟨n, M⟩ P)) ∧ Below w.heap.size w w' := by
  have hr := (right_any n M · h)
  have hB : Below w.heap.size w (w.alloc (.cells #[.int .i64 n, .int .u16 (M : Int)] 24)) := (Below.refl _ _).alloc (Nat.le_refl _) _
  unfold vw at hr ⊢
  have Hok : Hid (okC ⟨n, M⟩ P = (rgt n M && decide (P.length ≤ 16))) := hid rfl
  obtain ⟨ok, hok⟩ : ∃ x, x = okC ⟨n, M⟩ P := ⟨_, rfl⟩
  rw [← hok] at Hok ⊢
  clear hok
  obtain ⟨b, hb⟩ : ∃ b, b = rgt n M := ⟨_, rfl⟩
  rw [← hb] at Hok hr
  clear hb
  go_enter Tryd.func28, Tryd.ntmps28
  go_wp2_with (fail)
  refine (hr _).mono ?_
  rintro e w1 ⟨rfl, hB1⟩
  have hB1' := hB.trans (hB1.mono hB.size)
  clear hB1
  cases b with
  | false =>
    go_wp2
    go_ret
    exact ⟨ret_b (by rw [Hok.out]; rfl), hB1'⟩
  | true =>
    by_cases hl : P.length ≤ 16
    · have hI : (P.length : Int) ≤ 16 := by omega
      go_wp2
      go_ret
      exact ⟨ret_b (by rw [Hok.out, decide_eq_true hl]; simp; try omega), hB1'⟩
    · have hI : ¬ (P.length : Int) ≤ 16 := by omega
      go_wp2
      go_ret
      exact ⟨ret_b (by rw [Hok.out, decide_eq_false hl]; simp; try omega), hB1'⟩
end Go.Proofs.YtddeeigdcolegaaDoor
/- CD: layer 17: what finds votes. -/
namespace Go.Proofs.YtddeeigdcolegaaDoor
open Go.RowKit Go.V
/-- what finder$1 holds on to: keys, view, message -/
structure FD (w : World) (gk gv gm : Nat) (uk ur : Value) (n : Int) (M : Nat) (l : List Value) : Prop where
  k : Blk w gk 37 [uk, ur]
  v : Blk w gv 24 [.int .i64 n, .int .u16 (M : Int)]
  m : Blk w gm 30 l
theorem FD.below {w w' : World} {gk gv gm : Nat} {uk ur : Value} {n : Int} {M : Nat} {l : List Value} (h : FD w gk gv gm uk ur n M l) (hB : Below w.heap.size w w') : FD w' gk gv gm uk ur n M l := ⟨h.k.below hB, h.v.below hB, h.m.below hB⟩
theorem FD.keep {w w' : World} {gk gv gm : Nat} {uk ur : Value} {n : Int} {M : Nat} {l : List Value} (h : FD w gk gv gm uk ur n M l) (hB : ∀ b, b = gk ∨ b = gv ∨ b = gm → w'.heap[b]? = w.heap[b]?) : FD w' gk gv gm uk ur n M l := ⟨h.k.keep (hB _ (.inl rfl)), h.v.keep (hB _ (.inr (.inl rfl))), h.m.keep (hB _ (.inr (.inr rfl)))⟩
theorem finder17_any (l : List Value) (uk ur : Value) (n : Int) (M : Nat) (w : World) :
    Calls Tryd.prog 29 #[.agg #[uk, ur], vw n M, .agg l.toArray] w fun e w' => ∃ gk gv gm, e = .returned (.func (.func 38) #[] #[.pointer (some ⟨gk, 0, none⟩), .pointer (some ⟨gv, 0, none⟩), .pointer (some ⟨gm, 0, none⟩)]) ∧ FD w' gk gv gm uk ur n M l ∧ (w.heap.size ≤ gk ∧ w.heap.size ≤ gv ∧ w.heap.size ≤ gm) ∧ Below w.heap.size w w' := by
  obtain ⟨W0, hW0, b4, b5, b6, hB⟩ := alloc3 w 37 24 30 [uk, ur] [.int .i64 n, .int .u16 (M : Int)] l
  have hq := hid (fun W (h : W = W0) => (⟨_, _, _, rfl, ⟨h ▸ b4, h ▸ b5, h ▸ b6⟩, ⟨by omega, by omega, by omega⟩, h ▸ hB⟩ : ∃ gk gv gm, Ending.returned (.func (.func 38) #[] #[.pointer (some ⟨w.heap.size, 0, none⟩), .pointer (some ⟨w.heap.size + 1, 0, none⟩), .pointer (some ⟨w.heap.size + 1 + 1, 0, none⟩)]) = .returned (.func (.func 38) #[] #[.pointer (some ⟨gk, 0, none⟩), .pointer (some ⟨gv, 0, none⟩), .pointer (some ⟨gm, 0, none⟩)]) ∧ FD W gk gv gm uk ur n M l ∧ (w.heap.size ≤ gk ∧ w.heap.size ≤ gv ∧ w.heap.size ≤ gm) ∧ Below w.heap.size w W))
  unfold vw
  clear b4 b5 b6 hB
  go_enter Tryd.func29, Tryd.ntmps29
  go_wp2
  first | rw [← hW0] | (simp only [List.toArray] at hW0 ⊢; rw [← hW0])
  go_ret
  exact hq.out _ rfl
/-- a message of zeros -/
def zMg : Mg := ⟨0, 0, 0, 0, 0, List.replicate 32 0, [], []⟩
theorem zM_eq : zM = zMg.l (.slice none 0 0) (.slice none 0 0) := by simp [zM, zMg, Mg.l, zs8, bvs, byteV]
/-- what OpenOf tells: a message, whatever the error -/
def OpP (w : World) (r : Except Nat Mg) (e : Ending) (w' : World) : Prop := ∃ (x : Mg) (A B : Option Addr) (a b c d k : Nat), e = .returned (.tuple #[.agg (x.l (.slice A a b) (.slice B c d)).toArray, .int .i64 (k : Int)]) ∧ x.h.length = 32 ∧ (k = 0 → r = .ok x) ∧ (k ≠ 0 → ∃ k', r = .error k') ∧ Below w.heap.size w w'
theorem op_P {ks : List (List UInt8)} {V : Vc} {X : List UInt8} {w w' : World} {e : Ending} (h : ReadP w (opOf ks V X) e w') : OpP w (opOf ks V X) e w' := by
  cases hr : opOf ks V X with
  | error k =>
    rw [hr] at h
    obtain ⟨rfl, hB⟩ := h
    have hk := opof_pos hr
    exact ⟨zMg, none, none, 0, 0, 0, 0, k, by rw [zM_eq], by simp [zMg], fun h => absurd h hk, fun _ => ⟨k, rfl⟩, hB⟩
  | ok m =>
    rw [hr] at h
    obtain ⟨⟨ub, up, rfl, hub, hup⟩, hB⟩ := h
    obtain ⟨Ab, cb, rfl⟩ := hub.shape
    obtain ⟨Ap, cp, rfl, _, _⟩ := hup.slShape
    exact ⟨m, Ab, Ap, m.b.length, cb, m.ps.length, cp, 0, rfl, (opof_ok hr).1, fun _ => rfl, fun h => absurd rfl h, hB⟩
/-- what a finder tells -/
def FndP (w : World) (o : Option Mg) (e : Ending) (w' : World) : Prop := ∃ l : List Value, e = .returned (.tuple #[.agg l.toArray, .bool o.isSome]) ∧ l.length = 39 ∧ (∀ v ∈ l, v.oneCell' = true) ∧ (∀ m, o = some m → l[1]? = some (.int .i64 m.f) ∧ l[3]? = some (.int .i64 m.r)) ∧ Below w.heap.size w w'
theorem fnd_P {ks : List (List UInt8)} {V : Vc} {q : Qc} {X : List UInt8} {x : Mg} {k : Nat} {al : Bool} (hal : al = decide (x.k = q.k ∧ x.v = q.v ∧ x.s = q.s ∧ x.h = q.h)) (h0 : k = 0 → opOf ks V X = .ok x) (h1 : k ≠ 0 → ∃ k', opOf ks V X = .error k') : (fndC ks V q X).isSome = (decide (k = 0) && decide (x.v = V.n) && al) ∧ ∀ m, fndC ks V q X = some m → m = x := by
  unfold fndC
  by_cases hk : k = 0
  · rw [h0 hk]
    dsimp only
    rw [hal]
    by_cases hc : x.v = V.n ∧ x.k = q.k ∧ x.v = q.v ∧ x.s = q.s ∧ x.h = q.h
    · rw [if_pos hc]
      refine ⟨?_, fun m h => by injection h with h; exact h.symm⟩
      rw [decide_eq_true hk, decide_eq_true hc.1, decide_eq_true hc.2]
      rfl
    · rw [if_neg hc]
      refine ⟨?_, fun m h => by cases h⟩
      rw [decide_eq_true hk, Bool.true_and, ← Bool.decide_and]
      exact (decide_eq_false hc).symm
  · obtain ⟨k', hk'⟩ := h1 hk
    rw [hk']
    refine ⟨?_, fun m h => by cases h⟩
    rw [decide_eq_false hk]
    rfl
theorem beqT {a b : Int} (h : a = b) : (a == b) = true := by rw [h]; simp
theorem beqF {a b : Int} (h : a ≠ b) : (a == b) = false := by rw [beq_eq_false_iff_ne]; exact h
set_option maxRecDepth 100000 in
set_option maxHeartbeats 16000000 in
theorem find17_any (ks : List (List UInt8)) (V : Vc) (X : List UInt8) (m : Mg) (gk gv gm : Nat) (uk ur v ub up : Value) (F G : Nat → Prop) (w : World) (hKS : KS w) (hks : KsSm ks) (hk : Rd w F uk (tx ks)) (hv : Rd w G v (bys X)) (hX : X.length ≤ 1000000) (hV : V.m < 65536) (hm : m.h.length = 32) (hD : FD w gk gv gm uk ur V.n V.m (m.l ub up)) :
    Calls Tryd.prog 38 #[v, .pointer (some ⟨gk, 0, none⟩), .pointer (some ⟨gv, 0, none⟩), .pointer (some ⟨gm, 0, none⟩)] w (FndP w (fndC ks V (qOf m) X)) := by
  obtain ⟨n, M⟩ := V
  dsimp only at hV hD
  obtain ⟨A, c, rfl⟩ := hv.shape
  obtain ⟨bk, bv, bm⟩ := hD
  have Hm0 : Hid ((m.l ub up)[0]? = some (.int .i64 m.k)) := hid rfl
  have Hm2 : Hid ((m.l ub up)[2]? = some (.int .i64 m.v)) := hid rfl
  have Hm4 : Hid ((m.l ub up)[4]? = some (.int .i64 m.s)) := hid rfl
  have Hmh := hid (mg_hash hm ub up)
  have b5 := Blk.new' w 30 zM
  have hB : Below w.heap.size w (w.alloc (.cells zM.toArray 30)) := (Below.refl _ _).alloc (Nat.le_refl _) _
  have Hop := hid (fun F G Y h0 h1 h2 => (openof9_any ks ⟨n, M⟩ X uk ur (.slice A X.length c) F G Y h0 hks h1 h2 hX hV).mono (fun e w' h => op_P h))
  have bk := bk.below hB
  have bv := bv.below hB
  have bm := bm.below hB
  have hKS := hKS.below hB
  have hk := hk.below hB
  have hv := hv.below hB
  obtain ⟨lm, hlm⟩ : ∃ l, l = m.l ub up := ⟨_, rfl⟩
  rw [← hlm] at bm Hm0 Hm2 Hm4 Hmh
  obtain ⟨o, ho⟩ : ∃ o, o = fndC ks ⟨n, M⟩ (qOf m) X := ⟨_, rfl⟩
  rw [← ho]
  have Ho := hid ho
  clear ho hlm
  obtain ⟨r, hr⟩ : ∃ r, r = opOf ks ⟨n, M⟩ X := ⟨_, rfl⟩
  rw [← hr] at Hop
  have Hr := hid hr
  clear hr
  unfold vw at Hop
  go_enter Tryd.func38, Tryd.ntmps38
  go_wp2_with (first | (refine wp_new 30 rfl rfl zeroM ?_; refine wp_stop ?_))
  obtain ⟨w0, hw0⟩ : ∃ x, x = w.alloc (.cells zM.toArray 30) := ⟨_, rfl⟩
  rw [← hw0] at bk bv bm b5 hB hKS hk hv ⊢
  clear hw0
  obtain ⟨g5, hg5⟩ : ∃ g, g = w.heap.size := ⟨_, rfl⟩
  rw [← hg5] at b5 ⊢
  have hw5 : w.heap.size ≤ g5 := by omega
  clear hg5
  refine wp_go ?_
  go_wp2_with (first | refine wp_ld 37 (.tmp 1) rfl rfl rfl bk.whole Tryd.underlying37 rfl sizeKs17 ?_ | refine wp_ld 24 (.tmp 2) rfl rfl rfl bv.whole Tryd.underlying24 rfl sizeVw17 ?_)
  refine (Hop.out _ _ _ hKS hk hv).mono ?_
  rintro e w1 ⟨x, xA, xB, a1, a2, a3, a4, k, rfl, hxh, h0, h1, hB1⟩
  have bv := bv.below hB1
  have bm := bm.below hB1
  have b5 := b5.below hB1
  have hB := hB.trans (hB1.mono hB.size)
  have hl39 : (x.l (.slice xA a1 a2) (.slice xB a3 a4)).length = 39 := len_mg hxh _ _
  have Hx0 : Hid ((x.l (.slice xA a1 a2) (.slice xB a3 a4))[0]? = some (.int .i64 x.k)) := hid rfl
  have Hx1 : Hid ((x.l (.slice xA a1 a2) (.slice xB a3 a4))[1]? = some (.int .i64 x.f)) := hid rfl
  have Hx2 : Hid ((x.l (.slice xA a1 a2) (.slice xB a3 a4))[2]? = some (.int .i64 x.v)) := hid rfl
  have Hx3 : Hid ((x.l (.slice xA a1 a2) (.slice xB a3 a4))[3]? = some (.int .i64 x.r)) := hid rfl
  have Hx4 : Hid ((x.l (.slice xA a1 a2) (.slice xB a3 a4))[4]? = some (.int .i64 x.s)) := hid rfl
  have Hxc := hid (mg_hash hxh (.slice xA a1 a2) (.slice xB a3 a4))
  have Hlo := hid (mg_one x xA xB a1 a2 a3 a4)
  obtain ⟨lx, hlx⟩ : ∃ l, l = x.l (.slice xA a1 a2) (.slice xB a3 a4) := ⟨_, rfl⟩
  rw [← hlx] at hl39 Hx0 Hx1 Hx2 Hx3 Hx4 Hxc Hlo ⊢
  have Hl39 := hid hl39
  obtain ⟨al, hal⟩ : ∃ al, al = decide (x.k = m.k ∧ x.v = m.v ∧ x.s = m.s ∧ x.h = m.h) := ⟨_, rfl⟩
  have HF : Hid (o.isSome = (decide (k = 0) && decide (x.v = n) && al) ∧ ∀ m', o = some m' → m' = x) := hid (by rw [Ho.out]; exact fnd_P (q := qOf m) hal (fun h => Hr.out.symm.trans (h0 h)) (fun h => by obtain ⟨k', h'⟩ := h1 h; exact ⟨k', Hr.out.symm.trans h'⟩))
  have Hal := hid hal
  clear hlx hl39 hal h0 h1 Ho Hr Hop bk hKS hk hv hB1 hX
  go_wp2_with (first | (refine wp_newst 30 7 (.tmp 15) rfl rfl rfl rfl rfl rfl zeroM (l := lx) rfl (by rw [Hl39.out]; exact len_zM) (by rw [Hl39.out]; exact sizeM) Hlo.out (by simp) ?_; intro w2 b7 hB2 hs2; refine wp_stop ?_))
  have bv := bv.below hB2
  have bm := bm.below hB2
  have hl5 := b5.lt
  have b5 := b5.below hB2
  have hB := hB.trans (hB2.mono hB.size)
  obtain ⟨g7, hg7⟩ : ∃ g, g = w1.heap.size := ⟨_, rfl⟩
  rw [← hg7] at b7 hl5 ⊢
  clear hs2 hB2 hg7
  have x0 := b7.cellAt 0 _ Hx0.out
  have x2 := b7.cellAt 2 _ Hx2.out
  have x4 := b7.cellAt 4 _ Hx4.out
  have m0 := bm.cellAt 0 _ Hm0.out
  have m2 := bm.cellAt 2 _ Hm2.out
  have m4 := bm.cellAt 4 _ Hm4.out
  have v0 := bv.cellAt 0 _ rfl
  have xh := b7.range 5 (bvs x.h) (Hxc.out)
  have mh := bm.range 5 (bvs m.h) (Hmh.out)
  have Lxh : Hid ((bvs x.h).length = 32) := hid (by rw [len_bvs]; exact hxh)
  have Lmh : Hid ((bvs m.h).length = 32) := hid (by rw [len_bvs]; exact hm)
  have Heq := hid (eqH17 x.h m.h hxh hm)
  clear hxh hm
  refine wp_go ?_
  go_upto_region 2 with (fail)
  go_cut [9] (fun sc wx => sc = .bool al ∧ wx = w2)
  case first =>
    clear Hx0 Hx2 Hx4 Hm0 Hm2 Hm4 HF v0
    by_cases h0 : x.k = m.k
    · have b0x := beqT h0
      have H0 := hid h0
      clear h0
      by_cases h2 : x.v = m.v
      · have b2x := beqT h2
        have H2 := hid h2
        clear h2
        by_cases h4 : x.s = m.s
        · have b4x := beqT h4
          have H4 := hid h4
          clear h4
          by_cases hh : x.h = m.h
          · have Ha : Hid (al = true) := hid (by rw [Hal.out]; exact decide_eq_true ⟨H0.out, H2.out, H4.out, hh⟩)
            have heq : ∀ W : World, (Op.equalIn 10000 26 (.agg (bvs x.h).toArray) (.agg (bvs m.h).toArray)).run Tryd.prog W = .ok true W := by have := Heq.out; rw [decide_eq_true hh] at this; exact this
            clear hh Heq
            go_wp2_with (first | refine wp_ldg 26 (.tmp 37) (by rfl) rfl rfl xh Tryd.underlying26 rfl (by rw [Lxh.out]; exact size25) ?_ | refine wp_ldg 26 (.tmp 39) (by rfl) rfl rfl mh Tryd.underlying26 rfl (by rw [Lmh.out]; exact size25) ?_)
            go_meet
            exact ⟨by rw [Ha.out], rfl⟩
          · have Ha : Hid (al = false) := hid (by rw [Hal.out]; exact decide_eq_false (fun h => hh h.2.2.2))
            have heq : ∀ W : World, (Op.equalIn 10000 26 (.agg (bvs x.h).toArray) (.agg (bvs m.h).toArray)).run Tryd.prog W = .ok false W := by have := Heq.out; rw [decide_eq_false hh] at this; exact this
            clear hh Heq
            go_wp2_with (first | refine wp_ldg 26 (.tmp 37) (by rfl) rfl rfl xh Tryd.underlying26 rfl (by rw [Lxh.out]; exact size25) ?_ | refine wp_ldg 26 (.tmp 39) (by rfl) rfl rfl mh Tryd.underlying26 rfl (by rw [Lmh.out]; exact size25) ?_)
            go_meet
            exact ⟨by rw [Ha.out], rfl⟩
        · have Ha : Hid (al = false) := hid (by rw [Hal.out]; exact decide_eq_false (fun h => h4 h.2.2.1))
          have b4x := beqF h4
          clear h4 Heq
          go_wp2
          go_meet
          exact ⟨by rw [Ha.out], rfl⟩
      · have Ha : Hid (al = false) := hid (by rw [Hal.out]; exact decide_eq_false (fun h => h2 h.2.1))
        have b2x := beqF h2
        clear h2 Heq
        go_wp2
        go_meet
        exact ⟨by rw [Ha.out], rfl⟩
    · have Ha : Hid (al = false) := hid (by rw [Hal.out]; exact decide_eq_false (fun h => h0 h.1))
      have b0x := beqF h0
      clear h0 Heq
      go_wp2
      go_meet
      exact ⟨by rw [Ha.out], rfl⟩
  case rest =>
  obtain ⟨rfl, rfl⟩ := hcut
  clear x0 x4 m0 m2 m4 xh mh Heq Hal Lxh Lmh bm
  have hlt5 := b5.lt
  have Hfin : Hid (∀ W b, o.isSome = b → Below w.heap.size w W → FndP w o (.returned (.tuple #[.agg lx.toArray, .bool b])) W) := hid (fun W b hb hBW => ⟨lx, by rw [hb], Hl39.out, Hlo.out, fun m' hm' => by have := HF.out.2 m' hm'; subst this; exact ⟨Hx1.out, Hx3.out⟩, hBW⟩)
  by_cases hk0 : k = 0
  · have k0 : ((k : Int) == 0) = true := beqT (by omega)
    by_cases hvn : x.v = n
    · have v0x := beqT hvn
      have Hb : Hid (o.isSome = al) := hid (by rw [HF.out.1, decide_eq_true hk0, decide_eq_true hvn]; rfl)
      clear hvn hk0 HF
      go_wp2_with (first | refine wp_ld 30 (.tmp 7) rfl rfl rfl b7.whole Tryd.underlying30 rfl (by rw [Hl39.out]; exact sizeM) ?_ | (refine wp_st 30 (.tmp 5) (.tmp 43) rfl rfl rfl (f := 0) rfl (l := lx) rfl b5 (by rw [len_zM, Hl39.out]; omega) (by rw [Hl39.out]; exact sizeM) Hlo.out ?_; intro w4 k5 G5; refine wp_stop ?_))
      rw [set_all _ _ (by rw [len_zM, Hl39.out])] at k5
      have hB := hB.grown G5 hB.size (fun k hk => by injection hk with hk; omega)
      refine wp_go ?_
      go_wp2
      refine ret_cell1 rfl rfl rfl k5.whole Tryd.underlying30 rfl (by rw [Hl39.out]; exact sizeM) rfl ?_
      exact Hfin.out _ _ Hb.out hB
    · have v0x := beqF hvn
      have Hb : Hid (o.isSome = false) := hid (by rw [HF.out.1, decide_eq_false hvn, Bool.and_false]; rfl)
      clear hvn hk0 HF
      go_wp2_with (first | refine wp_ld 30 (.tmp 7) rfl rfl rfl b7.whole Tryd.underlying30 rfl (by rw [Hl39.out]; exact sizeM) ?_ | (refine wp_st 30 (.tmp 5) (.tmp 43) rfl rfl rfl (f := 0) rfl (l := lx) rfl b5 (by rw [len_zM, Hl39.out]; omega) (by rw [Hl39.out]; exact sizeM) Hlo.out ?_; intro w4 k5 G5; refine wp_stop ?_))
      rw [set_all _ _ (by rw [len_zM, Hl39.out])] at k5
      have hB := hB.grown G5 hB.size (fun k hk => by injection hk with hk; omega)
      refine wp_go ?_
      go_wp2
      refine ret_cell1 rfl rfl rfl k5.whole Tryd.underlying30 rfl (by rw [Hl39.out]; exact sizeM) rfl ?_
      exact Hfin.out _ _ Hb.out hB
  · have k0 : ((k : Int) == 0) = false := beqF (by omega)
    have Hb : Hid (o.isSome = false) := hid (by rw [HF.out.1, decide_eq_false hk0]; rfl)
    clear hk0 HF
    go_wp2_with (first | refine wp_ld 30 (.tmp 7) rfl rfl rfl b7.whole Tryd.underlying30 rfl (by rw [Hl39.out]; exact sizeM) ?_ | (refine wp_st 30 (.tmp 5) (.tmp 43) rfl rfl rfl (f := 0) rfl (l := lx) rfl b5 (by rw [len_zM, Hl39.out]; omega) (by rw [Hl39.out]; exact sizeM) Hlo.out ?_; intro w4 k5 G5; refine wp_stop ?_))
    rw [set_all _ _ (by rw [len_zM, Hl39.out])] at k5
    have hB := hB.grown G5 hB.size (fun k hk => by injection hk with hk; omega)
    refine wp_go ?_
    go_wp2
    refine ret_cell1 rfl rfl rfl k5.whole Tryd.underlying30 rfl (by rw [Hl39.out]; exact sizeM) rfl ?_
    exact Hfin.out _ _ Hb.out hB
end Go.Proofs.YtddeeigdcolegaaDoor
/- CE: layer 17: contract of certs.voters. -/
namespace Go.Proofs.YtddeeigdcolegaaDoor
open Go.RowKit Go.V
/-- slices in an array, one a member: of each the part that f tells, or nothing -/
structure FsX (w : World) (H : Nat → Prop) (us : List Value) (f : Nat → Option (List UInt8)) : Prop where
  len : us.length = 16
  at_ : ∀ i, i < 16 → ∃ u, us[i]? = some u ∧ Rd w H u (bys ((f i).getD []))
theorem FsX.one {w : World} {H : Nat → Prop} {us : List Value} {f : Nat → Option (List UInt8)} (h : FsX w H us f) : ∀ v ∈ us, v.oneCell' = true := by
  intro v hv
  obtain ⟨i, hi, rfl⟩ := List.getElem_of_mem hv
  obtain ⟨u, hu, hr⟩ := h.at_ i (by have := h.len; omega)
  rw [List.getElem?_eq_getElem hi] at hu
  injection hu with hu
  rw [hu]
  obtain ⟨A, c, rfl⟩ := hr.shape
  rfl
theorem FsX.keep {w w' : World} {H H' : Nat → Prop} {us : List Value} {f : Nat → Option (List UInt8)} (h : FsX w H us f) (hF : ∀ b, b < w.heap.size → H b → H' b ∧ w'.heap[b]? = w.heap[b]?) : FsX w' H' us f := ⟨h.len, fun i hi => by obtain ⟨u, hu, hr⟩ := h.at_ i hi; exact ⟨u, hu, hr.keep hF⟩⟩
theorem FsX.weak {w : World} {H H' : Nat → Prop} {us : List Value} {f : Nat → Option (List UInt8)} (h : FsX w H us f) (hF : ∀ b, H b → H' b) : FsX w H' us f := h.keep (fun b _ hb => ⟨hF b hb, rfl⟩)
theorem FsX.congr {w : World} {H : Nat → Prop} {us : List Value} {f g : Nat → Option (List UInt8)} (h : FsX w H us f) (e : ∀ i, i < 16 → g i = f i) : FsX w H us g := ⟨h.len, fun i hi => by rw [e i hi]; exact h.at_ i hi⟩
theorem FsX.put {w : World} {H : Nat → Prop} {us : List Value} {f g : Nat → Option (List UInt8)} {a : Nat} {u : Value} {X : List UInt8} (h : FsX w H us f) (ha : a < 16) (hu : Rd w H u (bys X)) (e : ∀ i, g i = if i = a then some X else f i) : FsX w H (us.set a u) g := ⟨by rw [List.length_set]; exact h.len, fun i hi => by
  rw [e]
  by_cases hia : i = a
  · subst hia
    rw [if_pos rfl]
    exact ⟨u, by rw [List.getElem?_set_self (by rw [h.len]; exact ha)], hu⟩
  · rw [if_neg hia]
    obtain ⟨v, hv, hr⟩ := h.at_ i hi
    exact ⟨v, by rw [List.getElem?_set_ne (fun h => hia h.symm)]; exact hv, hr⟩⟩
theorem ret_tc {P : Program} {fn : Func} {R : Ending → World → Prop} {a : Act} {w : World} {p q : Tmp} {ty : TypeId} (hf : fn.results = #[.tmp p, .cell q ty]) {u : Value} (hp : a.tmps.getD p undef = u) {b f : Nat} (hq : a.tmps.getD q undef = .pointer (some ⟨b, f, none⟩)) {l : List Value} (hr : w.rangeAt b f l)
    {d : TypeDesc} (hu : P.underlying ty = some d) (hd : d.isRow = true) (hi : (P.info? ty).map (·.size) = some l.length) (hdf : a.defers = []) (h : R (.returned (.tuple #[u, .agg l.toArray])) w) : bodyPost P fn R .ret a w := by
  refine bodyPost_ret (v := .tuple #[u, .agg l.toArray]) ?_ hdf h
  have hp' : a.tmps[p]?.getD undef = u := by simpa using hp
  have hq' : a.tmps[q]?.getD undef = .pointer (some ⟨b, f, none⟩) := by simpa using hq
  simp [results, hf, hp', hq', asAddr, run_loadVar_mid w b f ty l d hr hu hd hi]
def zF17 : List Value := List.replicate 16 (.slice none 0 0)
theorem FsX.zero (w : World) (H : Nat → Prop) (ks : List (List UInt8)) (V : Vc) (q : Qc) : FsX w H zF17 (fstC ks V q []) := ⟨by simp [zF17], fun i hi => ⟨.slice none 0 0, by unfold zF17; rw [List.getElem?_replicate, if_pos hi], Rd.nil w H⟩⟩
theorem zero16F : (Tryd.prog.info? 57).map (·.zero) = some (some (.agg zF17.toArray)) := by kernel_rfl
theorem size16F : (Tryd.prog.info? 57).map (·.size) = some 16 := by kernel_rfl
theorem sizeSl : (Tryd.prog.info? 27).map (·.size) = some 1 := by kernel_rfl
/-- what voters tells -/
def VtP (w : World) (H : Nat → Prop) (ks : List (List UInt8)) (V : Vc) (q : Qc) (P : List (List UInt8)) (e : Ending) (w' : World) : Prop := ∃ (S : Nat) (us : List Value), e = .returned (.tuple #[.int .u16 (S : Int), .agg us.toArray]) ∧ SetW S (fun i => P.any (isC ks V q i)) ∧ FsX w' H us (fstC ks V q P) ∧ Below w.heap.size w w'
theorem mg_reg {m : Mg} {a b : Int} (h : m.r = a) (h2 : m.r ≠ b) : a ≠ b := by rw [← h]; exact h2
set_option maxRecDepth 100000 in
set_option maxHeartbeats 16000000 in
theorem voters17_any (ks : List (List UInt8)) (V : Vc) (P : List (List UInt8)) (m : Mg) (uk ur pv ub up : Value) (F H : Nat → Prop) (w : World) (hKS : KS w) (hks : KsSm ks) (hk : Rd w F uk (tx ks)) (hp : Rd w H pv (tx P)) (hP : P.length ≤ 1000) (hPl : ∀ X ∈ P, X.length ≤ 1000000) (hV : V.m < 65536) (hm : m.h.length = 32) :
    Calls Tryd.prog 23 #[.agg #[uk, ur], vw V.n V.m, .agg (m.l ub up).toArray, pv] w (VtP w H ks V (qOf m) P) := by
  obtain ⟨n, M⟩ := V
  dsimp only at hV
  obtain ⟨A, c, rfl, hcA, hcm⟩ := hp.slShape
  obtain ⟨W0, hW0, b4, b5, b6, hB⟩ := alloc3 w 37 24 30 [uk, ur] [.int .i64 n, .int .u16 (M : Int)] (m.l ub up)
  have Hm3 : Hid ((m.l ub up)[3]? = some (.int .i64 m.r)) := hid rfl
  have Hl39 := hid (len_mg hm ub up)
  have hfd := hid (fun gk gv gm X u F' G Y h0 h1 h2 h3 h4 => find17_any ks ⟨n, M⟩ X m gk gv gm uk ur u ub up F' G Y h0 hks h1 h2 h3 hV hm h4)
  have hk := hk.weak (F' := fun b => b < w.heap.size) (fun b hb _ => hb)
  have hp := hp.weak (F' := fun b => H b ∧ b < w.heap.size) (fun b hb hF => ⟨hF, hb⟩)
  obtain ⟨Hx, hHx⟩ : ∃ Hx : Nat → Prop, Hx = fun b => H b ∧ b < w.heap.size := ⟨_, rfl⟩
  rw [← hHx] at hp
  have hHH : ∀ b, Hx b → H b := fun b h => by rw [hHx] at h; exact h.1
  have hHw : ∀ b, Hx b → b < w.heap.size := fun b h => by rw [hHx] at h; exact h.2
  clear hHx
  have hkl := hKS.lt
  have hk := hk.below hB
  have hp := hp.below hB
  have hKS := hKS.below hB
  have hb9 : Below W0.heap.size W0 (W0.alloc (.cells zF17.toArray 57)) := (Below.refl _ _).alloc (Nat.le_refl _) _
  have b9 := Blk.new' W0 57 zF17
  obtain ⟨lm, hlm⟩ : ∃ l, l = m.l ub up := ⟨_, rfl⟩
  rw [← hlm] at hW0 b6 Hl39 hfd Hm3 ⊢
  have Hqr : Hid ((qOf m).r = m.r) := hid rfl
  obtain ⟨q, hq⟩ : ∃ q, q = qOf m := ⟨_, rfl⟩
  rw [← hq] at hfd Hqr ⊢
  clear hq hlm hm
  have hs0 : W0.heap.size = w.heap.size + 1 + 1 + 1 := by rw [hW0]; simp
  have hVt : Hid (∀ e W, VtP w H ks ⟨n, M⟩ q P e W ↔ ∃ (S : Nat) (us : List Value), e = .returned (.tuple #[.int .u16 (S : Int), .agg us.toArray]) ∧ SetW S (fun i => P.any (isC ks ⟨n, M⟩ q i)) ∧ FsX W H us (fstC ks ⟨n, M⟩ q P) ∧ Below w.heap.size w W) := hid (fun _ _ => Iff.rfl)
  unfold vw
  go_enter Tryd.func23, Tryd.ntmps23
  go_wp2_with (first | (refine wp_new 57 rfl rfl zero16F ?_; refine wp_stop ?_))
  first | rw [← hW0] | (simp only [List.toArray] at hW0 ⊢; rw [← hW0])
  clear hW0
  obtain ⟨w0, hw0⟩ : ∃ x, x = W0.alloc (.cells zF17.toArray 57) := ⟨_, rfl⟩
  rw [← hw0] at b9 hb9 ⊢
  clear hw0
  have b4 := b4.below hb9
  have b5 := b5.below hb9
  have b6 := b6.below hb9
  have hk := hk.below hb9
  have hp := hp.below hb9
  have hKS := hKS.below hb9
  have hB := hB.trans (hb9.mono hB.size)
  rw [hs0] at b9
  obtain ⟨g9, hg9⟩ : ∃ g, g = w.heap.size + 1 + 1 + 1 := ⟨_, rfl⟩
  rw [← hg9] at b9 ⊢
  obtain ⟨g6, hg6⟩ : ∃ g, g = w.heap.size + 1 + 1 := ⟨_, rfl⟩
  rw [← hg6] at b6 ⊢
  obtain ⟨g5, hg5⟩ : ∃ g, g = w.heap.size + 1 := ⟨_, rfl⟩
  rw [← hg5] at b5 ⊢
  obtain ⟨g4, hg4⟩ : ∃ g, g = w.heap.size := ⟨_, rfl⟩
  rw [← hg4] at b4 ⊢
  have hw9 : w.heap.size < g9 := by omega
  have h69 : g6 < g9 := by omega
  have hH9 : ∀ b, Hx b → g9 ≠ b := fun b h => by have := hHw b h; omega
  clear hg4 hg5 hg6 hg9 hs0 hb9
  refine wp_go ?_
  go_wp2_with (first | refine wp_ld 37 (.tmp 4) rfl rfl rfl b4.whole Tryd.underlying37 rfl sizeKs17 ?_ | refine wp_ld 24 (.tmp 5) rfl rfl rfl b5.whole Tryd.underlying24 rfl sizeVw17 ?_ | refine wp_ld 30 (.tmp 6) rfl rfl rfl b6.whole Tryd.underlying30 rfl (by rw [Hl39.out]; exact sizeM) ?_)
  refine (finder17_any lm uk ur n M _).mono ?_
  rintro e w1 ⟨gk, gv, gm, rfl, hD, hgw, hB1⟩
  have hl9 := b9.lt
  have b6 := b6.below hB1
  have b9 := b9.below hB1
  have hKS := hKS.below hB1
  have hk := hk.below hB1
  have hp := hp.below hB1
  have hBw := hB.trans (hB1.mono hB.size)
  have hgk : gk ≠ g9 ∧ gv ≠ g9 ∧ gm ≠ g9 := by have h1 := hgw.1; have h2 := hgw.2.1; have h3 := hgw.2.2; exact ⟨by omega, by omega, by omega⟩
  clear hgw hB1 b4 b5 hB
  go_wp2
  go_loopw [8, 21] (fun sv iv wr => ∃ (j S : Nat) (us : List Value), j ≤ P.length ∧ iv = .int .i64 j ∧ sv = .int .u16 (S : Int) ∧ Hid (SetW S (fun i => (P.take j).any (isC ks ⟨n, M⟩ q i))) ∧ FsX wr Hx us (fstC ks ⟨n, M⟩ q (P.take j)) ∧ Blk wr g9 57 us ∧ Ch (only g9) w1 wr) (fun _ j _ => P.length - (intOf j).toNat)
  case atStart => exact ⟨0, 0, zF17, by omega, rfl, rfl, SetW.zero.congr (fun i _ => rfl), FsX.zero _ _ _ _ _, b9, Ch.refl _ _⟩
  case round =>
    clear b9
    obtain ⟨j, S, us, hj, rfl, rfl, hS, hus, b9, hCh⟩ := hrel
    have b6 := b6.ch hCh (by intro (h : g6 = g9); omega)
    have hD := hD.keep (w' := wr) (by rintro b (rfl | rfl | rfl); exact hCh.block _ hD.k.lt hgk.1; exact hCh.block _ hD.v.lt hgk.2.1; exact hCh.block _ hD.m.lt hgk.2.2)
    have hKS := hKS.keep (hCh.block _ hKS.lt (fun h => by have h : (0 : Nat) = g9 := h; omega))
    have hk := hk.ch hCh (fun b hb (h : b = g9) => by omega)
    have hp := hp.ch hCh (fun b hb (h : b = g9) => by have := hHw b hb; omega)
    have hszr := hCh.size
    by_cases hjl : j < P.length
    · have hJ : (j : Int) < (P.length : Int) := by omega
      obtain ⟨X, hX⟩ : ∃ X, P[j]? = some X := ⟨_, List.getElem?_eq_getElem hjl⟩
      obtain ⟨gp, offp, u, hAp, _, hcu, hu⟩ := Rd.elem hp j (bys X) (by rw [List.getElem?_map, hX]; rfl)
      subst hAp
      obtain ⟨Au, cu, rfl⟩ := hu.shape
      have hXl := hPl X (List.mem_of_getElem? hX)
      have Htk : Hid (P.take (j + 1) = P.take j ++ [X]) := hid (by rw [List.take_add_one, hX]; rfl)
      clear hX
      go_wp2_with (fail)
      refine (hfd.out gk gv gm X _ _ _ wr hKS hk hu hXl hD).mono ?_
      rintro e w2 ⟨lx, rfl, hl39x, hox, hmx, hB2⟩
      have Hlx := hid hl39x
      have Hox := hid hox
      have Hmx := hid hmx
      have b6 := b6.below hB2
      have b9 := b9.below hB2
      have hus := hus.keep (H' := Hx) (fun b hb hF => ⟨hF, hB2.block b hb⟩)
      have hu := hu.below hB2
      have hCh := hCh.belowR hB2
      clear hl39x hox hmx hB2 hKS hk hp hD hcu hfd
      go_wp2_with (first | (refine wp_newst 30 13 (.tmp 29) rfl rfl rfl rfl rfl rfl zeroM (l := lx) rfl (by rw [Hlx.out]; exact len_zM) (by rw [Hlx.out]; exact sizeM) Hox.out (by simp) ?_; intro w3 b13 hB3 hs3; refine wp_stop ?_))
      have b6 := b6.below hB3
      have b9 := b9.below hB3
      have hus := hus.keep (H' := Hx) (fun b hb hF => ⟨hF, hB3.block b hb⟩)
      have hu := hu.below hB3
      have hCh := hCh.belowR hB3
      obtain ⟨g13, hg13⟩ : ∃ g, g = w2.heap.size := ⟨_, rfl⟩
      rw [← hg13] at b13 ⊢
      clear hs3 hB3 hg13
      have m3 := b6.cellAt 3 _ Hm3.out
      obtain ⟨o, ho⟩ : ∃ o, o = fndC ks ⟨n, M⟩ q X := ⟨_, rfl⟩
      rw [← ho] at Hmx ⊢
      refine wp_go ?_
      cases o with
      | none =>
        have Hn := hid (is_none ho.symm)
        clear ho Hmx
        go_wp2
        go_roundw
        case rel => exact ⟨j + 1, S, us, by omega, by go_num, rfl, by rw [Htk.out]; exact set_same hS (fun i _ h => by rw [Hn.out] at h; cases h), by rw [Htk.out]; exact hus.congr (fun i hi => fst_same (fun i _ h => by rw [Hn.out] at h; cases h) i hi), b9, hCh⟩
        case measure => simp [intOf]; omega
      | some x =>
        obtain ⟨hx1, hx3⟩ := Hmx.out x rfl
        have hbd := fnd_bd ho.symm
        have c1 := b13.cellAt 1 _ hx1
        have c3 := b13.cellAt 3 _ hx3
        by_cases hr : x.r = m.r
        · have hI := is_some ho.symm (hr.trans Hqr.out.symm)
          have r3 := bneI hr
          obtain ⟨a, ha⟩ := Int.eq_ofNat_of_zero_le hbd.1
          rw [ha] at c1
          have ha16 : a < 16 := by have := hbd.2.1; omega
          have HI : Hid (∀ i, isC ks ⟨n, M⟩ q i X = decide (i = a)) := hid (fun i => by rw [hI, ha]; rfl)
          have hbit := bit_eq S a hS.1
          have hSa := hS.2 a ha16
          clear hr ho Hmx hI ha hx1 hx3 hbd
          cases hb : mbit S a with
          | true =>
            have Hv : Hid ((P.take j).any (isC ks ⟨n, M⟩ q a) = true) := hid (hSa.symm.trans hb)
            rw [hb] at hbit
            clear hb hSa
            go_wp2
            go_roundw
            case rel => exact ⟨j + 1, S, us, by omega, by go_num, rfl, by rw [Htk.out]; exact set_same hS (fun i _ h => by rw [HI.out, decide_eq_true_eq] at h; subst h; exact Hv.out), by rw [Htk.out]; exact hus.congr (fun i hi => fst_same (fun i _ h => by rw [HI.out, decide_eq_true_eq] at h; subst h; exact Hv.out) i hi), b9, hCh⟩
            case measure => simp [intOf]; omega
          | false =>
            have Hv : Hid ((P.take j).any (isC ks ⟨n, M⟩ q a) = false) := hid (hSa.symm.trans hb)
            rw [hb] at hbit
            clear hb hSa
            have hor := or_bit17 S a hS.1 ha16
            have hpl := putB_lt (i := a) hS.1 ha16
            have hsn := hid (set_new hS ha16 HI.out)
            obtain ⟨S', hS'⟩ : ∃ S', S' = putB S a := ⟨_, rfl⟩
            rw [← hS'] at hor hsn hpl
            clear hS'
            go_wp2_with (first | (refine wp_st1 27 (.tmp 56) (.tmp 55) rfl rfl rfl (b := g9) (f := a) rfl rfl b9 (by rw [hus.len]; exact ha16) sizeSl rfl rfl ?_; intro w4 k9 G9; refine wp_stop ?_))
            have hu := hu.keep (F' := Hx) (fun b hb hF => ⟨hF, G9.block b hb (by intro h; injection h with h; exact hH9 b hF h.symm)⟩)
            have hus := hus.keep (H' := Hx) (fun b hb hF => ⟨hF, G9.block b hb (by intro h; injection h with h; exact hH9 b hF h.symm)⟩)
            have hCh := hCh.grow G9 (fun k hk => by injection hk with hk; exact .inl hk.symm)
            refine wp_go ?_
            go_wp2
            go_roundw
            case rel => exact ⟨j + 1, S', us.set a (.slice Au X.length cu), by omega, by go_num, rfl, by rw [Htk.out]; exact hsn.out, by rw [Htk.out]; exact hus.put ha16 hu (fun i => fst_new Hv.out HI.out i), k9, hCh⟩
            case measure => simp [intOf]; omega
        · have hI := is_other ho.symm (fun h => hr (h.trans Hqr.out))
          have Hn := hid hI
          have r3 := bneN hr
          clear hr ho Hmx hI hx1 hx3 hbd
          go_wp2
          go_roundw
          case rel => exact ⟨j + 1, S, us, by omega, by go_num, rfl, by rw [Htk.out]; exact set_same hS (fun i _ h => by rw [Hn.out] at h; cases h), by rw [Htk.out]; exact hus.congr (fun i hi => fst_same (fun i _ h => by rw [Hn.out] at h; cases h) i hi), b9, hCh⟩
          case measure => simp [intOf]; omega
    · have hJ : ¬ (j : Int) < (P.length : Int) := by omega
      have htk : P.take j = P := List.take_of_length_le (by omega)
      rw [htk] at hS hus
      have hone := hus.one
      clear htk
      go_upto_region 10 with (fail)
      have hBd : Below wr.heap.size wr wr.drew := (Below.refl _ _).drew
      have b9 := b9.below hBd
      have hCh := hCh.belowR hBd
      have hus := hus.keep (H' := Hx) (fun b hb hF => ⟨hF, hBd.block b hb⟩)
      obtain ⟨wd, hwd⟩ : ∃ x, x = wr.drew := ⟨_, rfl⟩
      rw [← hwd] at b9 hus hCh
      refine wp_region_noPanic ?_
      refine wp_region_any (by kernel_rfl) ?_
      change wpAny _ _ _ _ _ _ _ (World.drew _)
      rw [← hwd]
      clear hwd hBd
      refine wpAny_take (i := 0) (oi := ⟨some 58, _, _, _, _, none⟩) (v := ?_) rfl (by kernel_rfl) (by kernel_rfl) (by kernel_rfl) (fun _ _ _ h => h) (Or.inl ⟨by rfl, ?_⟩) ?_
      rotate_left
      · intro w; go_simp; try with_reducible rfl
      try simp only [Act.put, List.setIfInBounds_toArray, List.set_cons_zero, List.set_cons_succ]
      refine wpAny_take (i := 2) (oi := ⟨some 8, _, _, _, _, none⟩) (v := ?_) rfl (by kernel_rfl) (by kernel_rfl) (by kernel_rfl) (fun _ _ _ h => h) (Or.inl ⟨by rfl, ?_⟩) ?_
      rotate_left
      · intro w; go_simp; try with_reducible rfl
      try simp only [Act.put, List.setIfInBounds_toArray, List.set_cons_zero, List.set_cons_succ]
      refine wpAny_ready (rs := [1]) (by kernel_rfl) (by simp) ?_
      refine AllReady.cons (o := ⟨some 59, .load 57 (.tmp 9), _, _, _, none⟩) rfl (fun K hK => ?_) AllReady.nil
      refine step_ld 57 (.tmp 9) (by rfl) (by rfl) (by rfl) b9.whole Tryd.underlying57 rfl (by rw [hus.len]; exact size16F) ?_
      refine hK _ _ ?_
      clear hK K
      try simp only [Act.put, List.setIfInBounds_toArray, List.set_cons_zero, List.set_cons_succ]
      refine wpAny_ready (rs := [3]) (by kernel_rfl) (by simp) ?_
      refine AllReady.cons (o := ⟨none, _, _, _, _, none⟩) rfl (fun K hK => ?_) AllReady.nil
      refine step_st 57 (.tmp 9) (.tmp 59) (by rfl) (by rfl) (by rfl) (f := 0) (by rfl) (l := us) (by rfl) b9 (by omega) (by rw [hus.len]; exact size16F) hone ?_
      intro w10 k9 hG10
      refine hK _ _ ?_
      clear hK K
      try simp only [Act.put, List.setIfInBounds_toArray, List.set_cons_zero, List.set_cons_succ]
      refine wpAny_done (by kernel_rfl) ?_ _
      refine NoPanic.normal ?_
      rw [set_all _ _ rfl] at k9
      have hCh := hCh.grow hG10 (fun k hk => by injection hk with hk; exact .inl hk.symm)
      have hus := hus.keep (H' := Hx) (fun b hb hF => ⟨hF, hG10.block b hb (by intro h; injection h with h; exact hH9 b hF h.symm)⟩)
      clear hG10 b9
      go_wp2
      refine ret_tc rfl rfl rfl k9.whole Tryd.underlying57 rfl (by rw [hus.len]; exact size16F) rfl ?_
      exact ⟨S, us, rfl, hS, hus.weak hHH, Ch.below_of hBw hCh (fun k hk => by have : k = g9 := hk; omega) hBw.size⟩
end Go.Proofs.YtddeeigdcolegaaDoor
