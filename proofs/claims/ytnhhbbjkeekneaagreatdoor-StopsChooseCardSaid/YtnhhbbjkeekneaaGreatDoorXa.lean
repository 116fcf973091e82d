/- Xa: several texts in one (CA Xg BC OT NS NU Xa). -/
import Derived.Test.YtnhhbbjkeekneaaGreatDoorCo
import Derived.Test.YtnhhbbjkeekneaaGreatDoorCq
import Derived.Test.YtnhhbbjkeekneaaGreatDoorVA
import Derived.Test.YtnhhbbjkeekneaaGreatDoorRB
import Derived.Test.YtnhhbbjkeekneaaGreatDoorN6
import Derived.Test.YtnhhbbjkeekneaaGreatDoorS3
import Derived.Lib.MinMax
import Derived.Deep.RegionHeld3
set_option maxRecDepth 100000
set_option maxHeartbeats 16000000
namespace Go.Proofs.YtnhhbbjkeekneaaGreatDoor
open Go.RowKit Go.V
def fndC (ks : List (List UInt8)) (V : Vc) (q : Qc) (X : List UInt8) : Option Mg := match opOf ks V X with
 | .ok m => if m.v = V.n /\ m.k = q.k /\ m.v = q.v /\ m.s = q.s /\ m.h = q.h then some m else none
 | .error _ => none
theorem cnt_fnd (ks : List (List UInt8)) (V : Vc) (q : Qc) (X : List UInt8) : cntC ks V q X = match fndC ks V q X with
 | some m => if m.r = q.r then some m.f.toNat else none
 | none => none := by
 unfold cntC fndC; cases opOf ks V X with
 | error e => rfl
 | ok m =>
  dsimp only; by_cases h : m.v = V.n /\ m.k = q.k /\ m.v = q.v /\ m.s = q.s /\ m.h = q.h
  . rw [if_pos h]; dsimp only; by_cases hr : m.r = q.r
    . rw [if_pos hr, if_pos ⟨h.1, h.2.1, h.2.2.1, hr, h.2.2.2.1, h.2.2.2.2⟩]
    . rw [if_neg hr, if_neg (fun h' => hr h'.2.2.2.1)]
  . rw [if_neg h, if_neg (fun h' => h ⟨h'.1, h'.2.1, h'.2.2.1, h'.2.2.2.2.1, h'.2.2.2.2.2⟩)]
theorem fnd_bd {ks : List (List UInt8)} {V : Vc} {q : Qc} {X : List UInt8} {m : Mg} (h : fndC ks V q X = some m) : 0 <= m.f /\ m.f < 16 /\ 0 <= m.r /\ m.r <= 40 := by
 unfold fndC at h
 split at h
 . rename_i m' hm
   split at h
   . injection h with h
     subst h; unfold opOf at hm
     split at hm
     . rename_i m2 h2
       split at hm
       . injection hm with hm
         subst hm; have := op_num h2; unfold numB at this; have := of_decide_eq_true this; omega
       . cases hm
     . cases hm
   . cases h
 . cases h
theorem is_none {ks : List (List UInt8)} {V : Vc} {q : Qc} {X : List UInt8} (h : fndC ks V q X = none) (i : Nat) : isC ks V q i X = false := by
 have e : cntC ks V q X = none := by rw [cnt_fnd, h]
 unfold isC; rw [e]; rfl
theorem is_other {ks : List (List UInt8)} {V : Vc} {q : Qc} {X : List UInt8} {m : Mg} (h : fndC ks V q X = some m) (hr : m.r ≠ q.r) (i : Nat) : isC ks V q i X = false := by
 have e : cntC ks V q X = none := by rw [cnt_fnd, h]; exact if_neg hr
 unfold isC; rw [e]; rfl
theorem is_some {ks : List (List UInt8)} {V : Vc} {q : Qc} {X : List UInt8} {m : Mg} (h : fndC ks V q X = some m) (hr : m.r = q.r) (i : Nat) : isC ks V q i X = decide (i = m.f.toNat) := by
 have e : cntC ks V q X = some m.f.toNat := by rw [cnt_fnd, h]; exact if_pos hr
 unfold isC; rw [e, Bool.eq_iff_iff, decide_eq_true_eq, decide_eq_true_eq, Option.some.injEq]; exact ⟨fun h => h.symm, fun h => h.symm⟩
def putB (S i : Nat) : Nat := S ||| 2 ^ i
def SetW (S : Nat) (g : Nat -> Bool) : Prop := S < 65536 /\ ∀ i, i < 16 -> mbit S i = g i
theorem putB_lt {S i : Nat} (hS : S < 65536) (hi : i < 16) : putB S i < 65536 := by
 unfold putB; exact Nat.or_lt_two_pow (n := 16) hS (Nat.pow_lt_pow_right (by omega) hi)
theorem mbit_put (S i j : Nat) : mbit (putB S i) j = (mbit S j || decide (j = i)) := by
 unfold putB; rw [mbit_test, mbit_test, Nat.testBit_or, Nat.testBit_two_pow]
 congr 1
 rw [Bool.eq_iff_iff, decide_eq_true_eq, decide_eq_true_eq]; exact ⟨fun h => h.symm, fun h => h.symm⟩
theorem SetW.zero : SetW 0 (fun _ => false) := ⟨by omega, fun i _ => by unfold mbit; simp⟩
theorem SetW.congr {S : Nat} {g g' : Nat -> Bool} (h : SetW S g) (e : ∀ i, i < 16 -> g i = g' i) : SetW S g' := ⟨h.1, fun i hi => (h.2 i hi).trans (e i hi)⟩
theorem SetW.put {S i : Nat} {g : Nat -> Bool} (h : SetW S g) (hi : i < 16) : SetW (putB S i) (fun j => g j || decide (j = i)) := ⟨putB_lt h.1 hi, fun j hj => by rw [mbit_put, h.2 j hj]⟩
theorem SetW.mem {S : Nat} {g : Nat -> Bool} (h : SetW S g) : memL S 16 = (List.range 16).filter g := by
 unfold memL; apply List.filter_congr; intro i hi; exact h.2 i (List.mem_range.1 hi)
theorem set_who {ks : List (List UInt8)} {V : Vc} {q : Qc} {P : List (List UInt8)} {S : Nat} (h : SetW S (fun i => P.any (isC ks V q i))) : memL S 16 = whoC ks V q P := h.mem
theorem set_sz {ks : List (List UInt8)} {V : Vc} {q : Qc} {P : List (List UInt8)} {S : Nat} (h : SetW S (fun i => P.any (isC ks V q i))) : szM S = (whoC ks V q P).length := by
 unfold szM; rw [set_who h]
theorem or_bit17 (m x : Nat) (hm : m < 65536) (hx : x < 16) : bits BinOp.or IntKind.u16 (m : Int) (IntKind.u16.wrap (2 ^ x)) = ((putB m x : Nat) : Int) := by
 have hp : 2 ^ x <= 2 ^ 15 := Nat.pow_le_pow_right (by omega) (by omega)
 have e : IntKind.u16.wrap ((2 : Int) ^ x) = ((2 ^ x : Nat) : Int) := by
  obtain ⟨q, hq⟩ := nm (2 ^ x); rw [show (2 : Int) ^ x = ((2 ^ x : Nat) : Int) from by push_cast; rfl, <- hq, IntKind.wrap_u16]; rw [<- hq] at hp; omega
 rw [e]; exact u16_or_nat m (2 ^ x) hm (Nat.lt_of_le_of_lt hp (by omega))
def fstC (ks : List (List UInt8)) (V : Vc) (q : Qc) (P : List (List UInt8)) (i : Nat) : Option (List UInt8) := P.find? (isC ks V q i)
theorem fst_snoc (ks : List (List UInt8)) (V : Vc) (q : Qc) (P : List (List UInt8)) (X : List UInt8) (i : Nat) : fstC ks V q (P ++ [X]) i = match fstC ks V q P i with
 | some Y => some Y
 | none => if isC ks V q i X = true then some X else none := by
 unfold fstC; rw [List.find?_append]; cases P.find? (isC ks V q i) with
 | some Y => rfl
 | none =>
  dsimp only; rw [List.find?_cons]; cases isC ks V q i X <;> rfl
theorem fst_any (ks : List (List UInt8)) (V : Vc) (q : Qc) (P : List (List UInt8)) (i : Nat) : (fstC ks V q P i).isSome = P.any (isC ks V q i) := by
 unfold fstC; rw [Bool.eq_iff_iff, List.find?_isSome, List.any_eq_true]
theorem any_snoc (ks : List (List UInt8)) (V : Vc) (q : Qc) (P : List (List UInt8)) (X : List UInt8) (i : Nat) : (P ++ [X]).any (isC ks V q i) = (P.any (isC ks V q i) || isC ks V q i X) := by
 rw [List.any_append]; simp
theorem set_same {ks : List (List UInt8)} {V : Vc} {q : Qc} {P : List (List UInt8)} {X : List UInt8} {S : Nat} (h : SetW S (fun i => P.any (isC ks V q i))) (hx : ∀ i, i < 16 -> isC ks V q i X = true -> P.any (isC ks V q i) = true) : SetW S (fun i => (P ++ [X]).any (isC ks V q i)) := by
 refine h.congr (fun i hi => ?_); rw [any_snoc]; cases hc : isC ks V q i X with
 | false => rw [Bool.or_false]
 | true => rw [hx i hi hc]; rfl
theorem fst_same {ks : List (List UInt8)} {V : Vc} {q : Qc} {P : List (List UInt8)} {X : List UInt8} (hx : ∀ i, i < 16 -> isC ks V q i X = true -> P.any (isC ks V q i) = true) (i : Nat) (hi : i < 16) : fstC ks V q (P ++ [X]) i = fstC ks V q P i := by
 rw [fst_snoc]; cases hf : fstC ks V q P i with
 | some Y => rfl
 | none =>
  dsimp only; cases hc : isC ks V q i X with
  | false => rfl
  | true =>
   have h1 := hx i hi hc; rw [<- fst_any, hf] at h1; cases h1
theorem set_new {ks : List (List UInt8)} {V : Vc} {q : Qc} {P : List (List UInt8)} {X : List UInt8} {S a : Nat} (h : SetW S (fun i => P.any (isC ks V q i))) (ha : a < 16) (hx : ∀ i, isC ks V q i X = decide (i = a)) : SetW (putB S a) (fun i => (P ++ [X]).any (isC ks V q i)) := by
 refine (h.put ha).congr (fun i hi => ?_); rw [any_snoc, hx]
theorem fst_new {ks : List (List UInt8)} {V : Vc} {q : Qc} {P : List (List UInt8)} {X : List UInt8} {a : Nat} (hn : P.any (isC ks V q a) = false) (hx : ∀ i, isC ks V q i X = decide (i = a)) (i : Nat) : fstC ks V q (P ++ [X]) i = if i = a then some X else fstC ks V q P i := by
 rw [fst_snoc, hx]; by_cases hi : i = a
 . subst hi; rw [if_pos rfl]; have := fst_any ks V q P i; rw [hn] at this; cases hf : fstC ks V q P i with
   | some Y => rw [hf] at this; cases this
   | none => simp
 . rw [if_neg hi]; cases fstC ks V q P i with
   | some Y => rfl
   | none => simp [hi]
structure WdS (W T : List Nat) : Prop where
 len : T.length = 41
 at_ : ∀ (r S : Nat), T[r]? = some S -> SetW S (fun i => decide (r < W.getD i 0))
structure WdJ (W T : List Nat) (f j : Nat) : Prop where
 len : T.length = 41
 at_ : ∀ (r S : Nat), T[r]? = some S -> SetW S (fun i => decide (r < W.getD i 0) || (decide (i = f) && decide (r < j)))
def zT19 : List Nat := List.replicate 41 0
theorem w0_get (i : Nat) : w0W.getD i 0 = 0 := by
 unfold w0W; rw [List.getD_eq_getElem?_getD, List.getElem?_replicate]
 split <;> rfl
theorem WdS.zero : WdS w0W zT19 := ⟨by simp [zT19], fun r S hS => by
 have h0 : S = 0 := by unfold zT19 at hS; rw [List.getElem?_replicate] at hS; split at hS; injection hS with hS; exact hS.symm; cases hS
 subst h0; refine SetW.zero.congr (fun i _ => ?_); rw [w0_get]; simp⟩
theorem WdS.j0 {W T : List Nat} (h : WdS W T) (f : Nat) : WdJ W T f 0 := ⟨h.len, fun r S hS => (h.at_ r S hS).congr (fun i _ => by simp)⟩
theorem WdJ.put {W T : List Nat} {f j S : Nat} (h : WdJ W T f j) (hf : f < 16) (hS : T[j]? = some S) : WdJ W (T.set j (putB S f)) f (j + 1) := ⟨by rw [List.length_set]; exact h.len, fun r S' hS' => by
 by_cases he : r = j
 . subst he; rw [List.getElem?_set_self (List.getElem?_eq_some_iff.1 hS).1] at hS'; injection hS' with hS'
   subst hS'; refine ((h.at_ r S hS).put hf).congr (fun i _ => ?_); cases decide (r < W.getD i 0) <;> cases h2 : decide (i = f) <;> simp
 . rw [List.getElem?_set_ne (fun h => he h.symm)] at hS'; refine (h.at_ r S' hS').congr (fun i _ => ?_)
   have : decide (r < j) = decide (r < j + 1) := by
    by_cases h : r < j
    . rw [decide_eq_true h, decide_eq_true (by omega)]
    . rw [decide_eq_false h, decide_eq_false (by omega)]
   rw [this]⟩
theorem WdJ.done {W T : List Nat} {f r : Nat} (h : WdJ W T f (r + 1)) (hW : W.length = 16) (hf : f < 16) (hr : W.getD f 0 <= r) : WdS (W.set f (r + 1)) T := ⟨h.len, fun q S hS => (h.at_ q S hS).congr (fun i _ => by
 by_cases hi : i = f
 . subst hi
   have e1 : (W.set i (r + 1)).getD i 0 = r + 1 := by
    rw [List.getD_eq_getElem?_getD, List.getElem?_set_self (by omega)]; rfl
   rw [e1]; by_cases hq : q < r + 1
   . simp [hq]
   . have : ¬ q < W.getD i 0 := by omega
     rw [decide_eq_false this, decide_eq_false hq, Bool.and_false]; rfl
 . have e1 : (W.set f (r + 1)).getD i 0 = W.getD i 0 := by
    rw [List.getD_eq_getElem?_getD, List.getD_eq_getElem?_getD, List.getElem?_set_ne (fun h => hi h.symm)]
   rw [e1]; simp [hi])⟩
theorem list_get : ∀ (W : List Nat), W = (List.range W.length).map (fun i => W.getD i 0) := by
 intro W; apply List.ext_getElem?; intro i; rw [List.getElem?_map]; by_cases h : i < W.length
 . rw [List.getElem?_range h]; simp [List.getElem?_eq_getElem h]
 . rw [List.getElem?_eq_none (by omega), List.getElem?_eq_none (by simp; omega)]; rfl
theorem WdS.cnt {W T : List Nat} {r S : Nat} (h : WdS W T) (hW : W.length = 16) (hS : T[r]? = some S) : szM S = cntW W (r : Int) := by
 unfold szM cntW; rw [(h.at_ r S hS).mem]; have e := list_get W; rw [hW] at e
 conv => rhs; rw [e]
 rw [List.filter_map, List.length_map]
 congr 1
 refine congrFun (congrArg _ (funext (fun i => ?_))) _; show decide (r < W.getD i 0) = decide (0 < W.getD i 0 /\ (r : Int) <= (W.getD i 0 : Int) - 1); by_cases h : r < W.getD i 0
 . rw [decide_eq_true h, decide_eq_true (by omega)]
 . rw [decide_eq_false h, decide_eq_false (by omega)]
def grF (a b : Int) (f : Nat -> Bool) : Nat -> Int
 | 0 => -1
 | n + 1 => if (decide (a < (n : Int) /\ (n : Int) < b) && f n) = true then (n : Int) else grF a b f n
theorem gr_gr {a : Int} {f : Nat -> Bool} {W : List Nat} {many : Nat} (hm : 0 < many) : ∀ (n : Nat), n <= 41 -> (∀ r, r < n -> f r = decide (many <= cntW W (r : Int))) -> grF a 41 f n = gW W a many n
 | 0, _, _ => rfl
 | n + 1, hn, h => by
  unfold grF gW; have ih := gr_gr (a := a) hm n (by omega) (fun r hr => h r (by omega)); rw [ih, h n (by omega)]
  have : (decide (a < (n : Int) /\ (n : Int) < 41) && decide (many <= cntW W (n : Int))) = isW W a many n := by
   unfold isW; by_cases h1 : a < (n : Int)
   . by_cases h2 : many <= cntW W (n : Int)
     . rw [decide_eq_true h2, decide_eq_true ⟨h1, by omega⟩, decide_eq_true ⟨h1, hm, h2⟩]; rfl
     . rw [decide_eq_false h2, decide_eq_false (p := a < (n : Int) /\ 0 < many /\ many <= cntW W (n : Int)) (fun h => h2 h.2.2), Bool.and_false]
   . rw [decide_eq_false (p := a < (n : Int) /\ (n : Int) < 41) (fun h => h1 h.1), decide_eq_false (p := a < (n : Int) /\ 0 < many /\ many <= cntW W (n : Int)) (fun h => h1 h.1)]; rfl
  rw [this]
theorem grF_take {a b : Int} {f : Nat -> Bool} {n : Nat} (h : (decide (a < (n : Int) /\ (n : Int) < b) && f n) = true) : grF a b f (n + 1) = (n : Int) := by
 show (if _ then _ else _) = _; rw [if_pos h]
theorem grF_skip {a b : Int} {f : Nat -> Bool} {n : Nat} (h : ¬ (decide (a < (n : Int) /\ (n : Int) < b) && f n) = true) : grF a b f (n + 1) = grF a b f n := by
 show (if _ then _ else _) = _; rw [if_neg h]
theorem bclone_any (bs : List UInt8) (F : Nat -> Prop) (v : Value) (w : World) (h : Rd w F v (bys bs)) (hb : bs.length <= 1000000000) :
 Calls Tryz.prog 64 #[v] w fun e w' => ∃ v', e = .returned v' /\ w'.ownsRow w.heap.size 5 1 v' bs.length (bvs bs) /\ Below w.heap.size w w' := by
 obtain ⟨A, c, rfl⟩ := h.shape; have hsr := h.src; cases A with
 | none =>
  obtain ⟨h0, h1⟩ := hsr.none0; have h2 : Hid (bs = []) := List.eq_nil_of_length_eq_zero h0; rw [h0]; clear h h0 h1 hsr; have hnil := fun W : World => (by kernel_rfl : (Go.binOp BinOp.eql 33 (.slice none 0 c) (.slice none 0 0)).run Tryz.prog W = .ok (.bool true) W)
  go_enter Tryz.func64, Tryz.ntmps64; go_wp2; go_ret; exact ⟨_, rfl, by rw [h2.out]; exact World.ownsRow_nil _ _ _ _, Below.refl _ _⟩
 | some ad =>
  have hnil := fun W : World => (by kernel_rfl : (Go.binOp BinOp.eql 33 (.slice (some ad) bs.length c) (.slice none 0 0)).run Tryz.prog W = .ok (.bool false) W)
  have Hbs := hid (fun W : World => (by kernel_rfl : (Instr.buildSlice 33 0 #[]).run Tryz.prog W = .ok (.slice (some ⟨W.heap.size, 0, none⟩) 0 0) (W.alloc (.cells #[] 5)))); go_enter Tryz.func64, Tryz.ntmps64; go_wp2_with (first | (refine wp_bs0 33 5 rfl rfl Hbs.out ?_; intro v9 w9 ho9 hB9; have hsr9 := (h.below hB9).src) | (refine wp_app (.tmp 5) (.tmp 6) slB rfl rfl rfl ho9 rfl hsr9 (oneCell_bvs _) (by simp only [maxLen]; omega) (by omega) hB9.size ?_; intro v8 w8 ho8 hG8 _; refine wp_stop ?_) | go_in); have hB8 : Below w.heap.size w w8 := hB9.grown hG8 hB9.size (fun k hk => (ho9.lt k hk).1); rw [List.nil_append, Nat.zero_add] at ho8; obtain ⟨A8, c8, rfl⟩ := own_shape ho8; clear ho9 hB9 hG8 hsr hsr9 h; refine wp_go ?_; go_wp2; go_ret; exact ⟨_, rfl, ho8, hB8⟩
end Go.Proofs.YtnhhbbjkeekneaaGreatDoor
namespace Go.V
open Go.RowKit
theorem own_keepO {w w' : World} {base : Nat} {e : TypeId} {s : Nat} {v : Value} {n : Nat} {xs : List Value} (h : w.ownsRow base e s v n xs) (hk : ∀ k, k < w.heap.size -> v.ownBlock = some k -> w'.heap[k]? = w.heap[k]?) : w'.ownsRow base e s v n xs := by
 obtain ⟨h1, h2⟩ := h; refine ⟨h1, ?_⟩; rcases h2 with h | ⟨g, cap, cur, rfl, hg, hh, h3⟩
 . exact .inl h
 . exact .inr ⟨g, cap, cur, rfl, hg, (hk g (lt_of_block hh) rfl).trans hh, h3⟩
structure OT (w : World) (e : TypeId) (base : Nat) (Z : Nat -> Prop) (av : Value) (l : List (List UInt8)) (us : List Value) : Prop where
 own : w.ownsRow base e 1 av l.length us
 x : TxX w (fun b => base <= b /\ ¬ Z b /\ av.ownBlock ≠ some b) l us
 z : ∀ b, av.ownBlock = some b -> ¬ Z b
theorem OT.nil (w : World) (e : TypeId) (base : Nat) (Z : Nat -> Prop) : OT w e base Z (.slice none 0 0) [] [] := ⟨World.ownsRow_nil _ _ _ _, TxX.nil _ _, fun b e => by cases e⟩
theorem OT.ch {w w' : World} {e : TypeId} {base : Nat} {Z G : Nat -> Prop} {av : Value} {l : List (List UInt8)} {us : List Value} (h : OT w e base Z av l us) (hC : Ch G w w') (hG : ∀ b, G b -> Z b \/ b < base) : OT w' e base Z av l us :=
 ⟨own_keepO h.own (fun k hk e => hC.block k hk (fun hg => (hG k hg).elim (h.z k e) (fun h2 => by have := (h.own.lt k e).1; omega))),
  h.x.keep (fun b hb hF => ⟨hF, hC.block b hb (fun hg => (hG b hg).elim hF.2.1 (fun h2 => by have := hF.1; omega))⟩), h.z⟩
theorem OT.pushG {w w' : World} {e : TypeId} {base : Nat} {Z : Nat -> Prop} {av v' u : Value} {l : List (List UInt8)} {us : List Value} {t : List UInt8} (h : OT w e base Z av l us) (hu : Rd w (fun b => base <= b /\ ¬ Z b /\ av.ownBlock ≠ some b) u (bys t)) (hZ : ∀ b, Z b -> b < w.heap.size)
 (ho : w'.ownsRow base e 1 v' (l.length + 1) (us ++ [u])) (hG : w.grownBy w' av.ownBlock) (hd : v'.ownBlock = av.ownBlock \/ ∃ g, v'.ownBlock = some g /\ w.heap.size <= g) : OT w' e base Z v' (l ++ [t]) (us ++ [u]) := by
 have hk : ∀ b, b < w.heap.size -> base <= b /\ ¬ Z b /\ av.ownBlock ≠ some b -> (base <= b /\ ¬ Z b /\ v'.ownBlock ≠ some b) /\ w'.heap[b]? = w.heap[b]? := fun b hb h1 =>
  ⟨⟨h1.1, h1.2.1, fun e2 => hd.elim (fun hd => h1.2.2 (by rw [<- hd]; exact e2)) (fun ⟨g, hd, hg⟩ => by rw [hd] at e2; injection e2 with e2; omega)⟩, hG.block b hb (fun e2 => h1.2.2 e2.symm)⟩
 refine ⟨by rw [List.length_append]; exact ho, (h.x.keep hk).snoc (hu.keep hk), fun b e2 hz => ?_⟩; rcases hd with hd | ⟨g, hd, hg⟩
 . exact h.z b (by rw [<- hd]; exact e2) hz
 . rw [hd] at e2; injection e2 with e2; have := hZ b hz; omega
theorem OT.rd {w : World} {e : TypeId} {base : Nat} {Z : Nat -> Prop} {av : Value} {l : List (List UInt8)} {us : List Value} (h : OT w e base Z av l us) : Rd w (fun b => base <= b) av (tx l) := tx_own h.own h.x (fun _ h => h.1)
end Go.V
namespace Go.Proofs.YtnhhbbjkeekneaaGreatDoor
open Go.RowKit Go.V
theorem op_cut (ks : List (List UInt8)) (X : List UInt8) : opR (ks.take 16) X = opR ks X := by
 unfold opR
 split
 . rfl
 . split
   . rfl
   . split
     . rfl
     . rename_i m hm
       have h15 : 0 <= m.f /\ m.f <= 15 := by
        have := rdM_num hm; unfold numB at this; have := of_decide_eq_true this; omega
       have e1 : ((ks.take 16).length : Int) <= m.f ↔ (ks.length : Int) <= m.f := by rw [List.length_take]; omega
       have e2 : keyOf (ks.take 16) m = keyOf ks m := by
        unfold keyOf; rw [List.getD_eq_getElem?_getD, List.getD_eq_getElem?_getD, List.getElem?_take, if_pos (by omega)]
       simp only [e1, e2]
theorem opof_cut (ks : List (List UInt8)) (V : Vc) (X : List UInt8) : opOf (ks.take 16) V X = opOf ks V X := by
 unfold opOf; rw [op_cut]
theorem KsSm.cut {ks : List (List UInt8)} (h : KsSm ks) : KsSm (ks.take 16) := ⟨by rw [List.length_take]; have := h.n; omega, fun k hk => h.t k (List.mem_of_mem_take hk)⟩
theorem OT.fresh18 {w w' : World} {e e' : TypeId} {base n : Nat} {av v : Value} {l : List (List UInt8)} {us : List Value} {X : List UInt8} (h : OT w e base nob av l us) (ho : w'.ownsRow w.heap.size e' 1 v n (bvs X)) (hb : base <= w.heap.size) : Rd w' (fun b => base <= b /\ ¬ nob b /\ av.ownBlock ≠ some b) v (bys X) :=
 (Rd.of_own ho).weak (fun b _ (h2 : w.heap.size <= b) => ⟨by omega, fun h => h, fun e => by have := (h.own.lt b e).2; omega⟩)
theorem bldKs18 (A : Option Addr) (n c : Nat) : ∀ W : World, (Instr.build 40 #[(0, .slice A n c)]).run Tryz.prog W = .ok (.agg #[.slice A n c, .slice none 0 0]) W := fun _ => by kernel_rfl
def zKsN : List Value := [.slice none 0 0, .slice none 0 0]
theorem zeroKsN : (Tryz.prog.info? 40).map (·.zero) = some (some (.agg zKsN.toArray)) := by kernel_rfl
theorem seals18_any (ks : List (List UInt8)) (uk ur : Value) (F : Nat -> Prop) (w : World) (hks : KsSm ks) (hk : Rd w F uk (tx ks)) :
 Calls Tryz.prog 32 #[.agg #[uk, ur]] w fun e w' => ∃ v', e = .returned (.agg #[v', .slice none 0 0]) /\ Rd w' (fun b => w.heap.size <= b) v' (tx (ks.take 16)) /\ Below w.heap.size w w' := by
 obtain ⟨A, c, rfl, hcA, hcm⟩ := hk.slShape; obtain ⟨K, hK⟩ := nm (ks.take 16); have hKl : K.length = min ks.length 16 := by rw [hK, List.length_take]; omega
 have hKm := hid (fun X (hX : X ∈ K) => hks.t X (List.mem_of_mem_take (by rw [hK] at hX; exact hX))); have hmn := fun (W : World) (ts : Array TypeId) (t : TypeId) => Lib.run_min_ints (P := Tryz.prog) W ts t .i64 .i64 (ks.length : Int) 16; have hme : min (ks.length : Int) 16 = (K.length : Int) := by omega
 have hcut := fun W => run_cut_h slBB8 A ks.length c (K.length : Int) (by omega) (by omega) W
 have hp : Rd w F (sliced A 0 K.length c 1) (tx K) := by
  have := Rd.piece (ds := ks.map bys) hk (by simp) (l := 0) (m := K.length) (by omega) (by omega); rw [List.drop_zero, Nat.sub_zero] at this
  have e1 : (ks.map bys).take K.length = K.map bys := by
   rw [hKl, <- List.map_take, hK, <- List.take_take, List.take_of_length_le (by rw [List.length_take]; omega)]
  rw [e1] at this; exact this
 rw [Int.toNat_natCast] at hcut; obtain ⟨A', c', hs', _, _⟩ := hp.slShape; rw [hs'] at hp hcut; rw [hme] at hmn; have Hmn := hid hmn; have Hcut := hid hcut; clear hmn hcut hs' hme hcA hcm; rw [<- hK]; obtain ⟨W1, hW1⟩ := nm (w.alloc (.cells #[.slice A ks.length c, ur] 40)); have b1 : Blk W1 w.heap.size 40 [.slice A ks.length c, ur] := by rw [hW1]; exact Blk.new' w 40 _
 have hs1 : W1.heap.size = w.heap.size + 1 := by rw [hW1]; simp
 have hB1 : Below w.heap.size w W1 := by rw [hW1]; exact (Below.refl _ _).alloc (Nat.le_refl _) _
 obtain ⟨W0, hW0⟩ := nm (W1.alloc (.cells zKsN.toArray 40)); have b2 : Blk W0 (w.heap.size + 1) 40 zKsN := by rw [hW0, <- hs1]; exact Blk.new' W1 40 _
 have hB2 : Below W1.heap.size W1 W0 := by rw [hW0]; exact (Below.refl _ _).alloc (Nat.le_refl _) _
 have b1 := b1.below hB2; have hB0 := hB1.trans (hB2.mono hB1.size); have hp := hp.below hB0; have c0 := b1.cellAt 0 _ rfl; obtain ⟨g2, hg2⟩ := nm (w.heap.size + 1); rw [<- hg2] at b2; have hg2w : w.heap.size <= g2 := by omega
 have hg2l := b2.lt; have hOT := OT.nil W0 33 W0.heap.size nob; have hs0 := hB0.size; have hK16 : K.length <= 16 := by omega
 clear hK hk hKl hks b1 hB1 hB2; go_enter Tryz.func32, Tryz.ntmps32; go_wp2_with (first | (refine wp_new 40 rfl rfl zeroKsN ?_; refine wp_stop ?_)); rw [<- hW1, <- hW0]; rw [<- hg2]; clear hW0 hg2 hW1 hs1; refine wp_go ?_; have hmn := Hmn.out; have hcut := Hcut.out; go_wp2; clear c0 hmn hcut
 go_loopw [3, 14] (fun ov iv wr => ∃ (i : Nat) (us' : List Value), i <= K.length /\ iv = .int .i64 i /\ OT wr 33 W0.heap.size nob ov (K.take i) us' /\ Below W0.heap.size W0 wr) (fun _ i _ => K.length - (intOf i).toNat)
 case atStart => exact ⟨0, [], by omega, rfl, hOT, Below.refl _ _⟩
 case round =>
  clear hOT; obtain ⟨i, us', hi, rfl, hOT, hBr⟩ := hrel; have hszr := hBr.size; have hp := hp.below hBr; by_cases hlt : i < K.length
  . have hI : (i : Int) < (K.length : Int) := by omega
    obtain ⟨X, hX⟩ : ∃ X, K[i]? = some X := ⟨_, List.getElem?_eq_getElem hlt⟩
    have hXl := hKm.out X (List.mem_of_getElem? hX); have Hnx : Hid (K.take (i + 1) = K.take i ++ [X]) := hid (by rw [List.take_add_one, hX]; rfl); obtain ⟨gp, offp, u, hAp, _, hcu, hu⟩ := Rd.elem hp i (bys X) (by rw [List.getElem?_map, hX]; rfl); subst hAp; obtain ⟨Au, cu, rfl⟩ := hu.shape; have hDl : (K.take i).length = i := by rw [List.length_take]; omega
    obtain ⟨D, hD⟩ := nm (K.take i); rw [<- hD] at hOT Hnx hDl; clear hX hD hp; go_wp2_with (fail); refine (bclone_any X _ _ _ hu (by omega)).mono ?_; rintro e w5 ⟨v5, rfl, ho5, hB5⟩; obtain ⟨A5, c5, rfl⟩ := own_shape ho5; have hv5 := OT.fresh18 hOT ho5 hszr; have hOT := hOT.ch (G := nob) (Ch.of_below hB5) (fun b hb => hb.elim); have hBr := hBr.trans (hB5.mono hszr); have hszr := hBr.size; clear hB5 hu hcu; go_wp2_with (first | (refine wp_push (.tmp 18) (.tmp 20) 21 slBB8 rfl rfl rfl rfl rfl (u := .slice A5 X.length c5) rfl rfl rfl (by simp) rfl hOT.own (by rw [hDl]; simp only [maxLen]; omega) (by rw [hDl]; omega) hszr ?_; intro v6 w6 ho6 hG6 hd6; refine wp_stop ?_)); have hBr := hBr.grown hG6 hszr (fun k hk => (hOT.own.lt k hk).1); have hOT := OT.pushG hOT hv5 (fun b h => h.elim) ho6 hG6 hd6; refine wp_go ?_; go_wp2
    go_roundw
    case rel => exact ⟨i + 1, _, by omega, by go_num, by rw [Hnx.out]; exact hOT, hBr⟩
    case measure => simp [intOf]; omega
  . have hI : ¬ (i : Int) < (K.length : Int) := by omega
    have htk : K.take i = K := List.take_of_length_le (by omega); rw [htk] at hOT; have hfin := hOT.rd; obtain ⟨Ao, co, rfl⟩ := own_shape hOT.own; have hBe := hB0.trans (hBr.mono hs0); have b2r := b2.below hBr; have hszr2 := hBr.size; clear htk hp b2; go_wp2_with (first | (refine wp_bld 40 [(0, .tmp 24)] rfl rfl [(0, .slice Ao K.length co)] rfl (bldKs18 _ _ _) ?_) | (refine wp_st 40 (.tmp 2) (.tmp 25) rfl rfl rfl (f := 0) rfl (l := [.slice Ao K.length co, .slice none 0 0]) rfl b2r (by exact Nat.le_refl _) sizeKs17 (by intro v hv; simp only [List.mem_cons, List.not_mem_nil, or_false] at hv; rcases hv with rfl | rfl <;> rfl) ?_; intro w9 hd9 hG9; refine wp_stop ?_)); rw [set_all zKsN [.slice Ao K.length co, .slice none 0 0] rfl] at hd9; refine wp_go ?_; go_wp2; refine ret_cell rfl rfl hd9.whole Tryz.underlying40 rfl sizeKs17 rfl ?_; have hk9 : Rd w9 (fun b => W0.heap.size <= b) (.slice Ao K.length co) (tx K) := hfin.keep (fun b _ h => ⟨h, hG9.block b (by assumption) (fun e => by injection e with e; omega)⟩); exact ⟨_, rfl, hk9.weak (fun b _ h => Nat.le_trans hs0 h), hBe.grown hG9 hBe.size (sk (by omega))⟩
def u16s (T : List Nat) : List Value := T.map fun (S : Nat) => .int .u16 (S : Int)
theorem len_u16s (T : List Nat) : (u16s T).length = T.length := by simp [u16s]
theorem u16s_at {T : List Nat} {r S : Nat} (h : T[r]? = some S) : (u16s T)[r]? = some (.int .u16 (S : Int)) := by simp [u16s, h]
theorem set_u16s (T : List Nat) (r S : Nat) : (u16s T).set r (.int .u16 (S : Int)) = u16s (T.set r S) := by simp [u16s, List.map_set]
theorem size41 : (Tryz.prog.info? 82).map (·.size) = some 41 := by kernel_rfl
theorem sizeU16 : (Tryz.prog.info? 22).map (·.size) = some 1 := by kernel_rfl
def sC (uk : Value) (V : Vc) (T : List Nat) : List Value := [uk, .slice none 0 0, .int .i64 V.n, .int .u16 (V.m : Int)] ++ u16s T
structure SM (w : World) (p : Nat) (uk : Value) (F : Nat -> Prop) (ks : List (List UInt8)) (V : Vc) (W T : List Nat) : Prop where
 blk : Blk w p 84 (sC uk V T)
 keys : Rd w F uk (tx (ks.take 16))
 wd : WdS W T
 len : W.length = 16
 vb : V.m < 65536
 f : ∀ x, F x -> x ≠ p /\ x < w.heap.size
theorem SM.keep {w w' : World} {p : Nat} {uk : Value} {F : Nat -> Prop} {ks : List (List UInt8)} {V : Vc} {W T : List Nat} (h : SM w p uk F ks V W T) (hs : w.heap.size <= w'.heap.size) (hk : ∀ x, x = p \/ F x -> w'.heap[x]? = w.heap[x]?) : SM w' p uk F ks V W T :=
 ⟨h.blk.keep (hk p (.inl rfl)), h.keys.keep (fun x _ hx => ⟨hx, hk x (.inr hx)⟩), h.wd, h.len, h.vb, fun x hx => ⟨(h.f x hx).1, Nat.lt_of_lt_of_le (h.f x hx).2 hs⟩⟩
theorem SM.lt {w : World} {p : Nat} {uk : Value} {F : Nat -> Prop} {ks : List (List UInt8)} {V : Vc} {W T : List Nat} (h : SM w p uk F ks V W T) {x : Nat} (hx : x = p \/ F x) : x < w.heap.size := by
 rcases hx with rfl | hx
 . exact h.blk.lt
 . exact (h.f x hx).2
theorem SM.below {w w' : World} {p : Nat} {uk : Value} {F : Nat -> Prop} {ks : List (List UInt8)} {V : Vc} {W T : List Nat} (h : SM w p uk F ks V W T) (hB : Below w.heap.size w w') : SM w' p uk F ks V W T := h.keep hB.size (fun x hx => hB.block x (h.lt hx))
def SX (w : World) (v : Value) (M N : Nat -> Prop) (ks : List (List UInt8)) (V : Vc) (W : List Nat) : Prop :=
 (∀ b, N b -> b < w.heap.size) /\ ∃ (p : Nat) (uk : Value) (F : Nat -> Prop) (T : List Nat), v = .pointer (some ⟨p, 0, none⟩) /\ SM w p uk F ks V W T /\ ∀ x, M x ↔ x = p \/ F x
theorem SX.lt {w : World} {v : Value} {M N : Nat -> Prop} {ks : List (List UInt8)} {V : Vc} {W : List Nat} (h : SX w v M N ks V W) : ∀ b, M b \/ N b -> b < w.heap.size := by
 obtain ⟨hN, p, uk, F, T, _, hm, hM⟩ := h; rintro b (hb | hb)
 . exact hm.lt ((hM b).1 hb)
 . exact hN b hb
theorem SX.len {w : World} {v : Value} {M N : Nat -> Prop} {ks : List (List UInt8)} {V : Vc} {W : List Nat} (h : SX w v M N ks V W) : W.length = 16 := by
 obtain ⟨_, p, uk, F, T, _, hm, _⟩ := h; exact hm.len
theorem SX.keep {w w' : World} {v : Value} {M N : Nat -> Prop} {ks : List (List UInt8)} {V : Vc} {W : List Nat} (h : SX w v M N ks V W) (hs : w.heap.size <= w'.heap.size) (hk : ∀ b, M b \/ N b -> w'.heap[b]? = w.heap[b]?) : SX w' v M N ks V W := by
 obtain ⟨hN, p, uk, F, T, hv, hm, hM⟩ := h; exact ⟨fun b hb => Nat.lt_of_lt_of_le (hN b hb) hs, p, uk, F, T, hv, hm.keep hs (fun x hx => hk x (.inl ((hM x).2 hx))), hM⟩
theorem SX.below {w w' : World} {v : Value} {M N : Nat -> Prop} {ks : List (List UInt8)} {V : Vc} {W : List Nat} (h : SX w v M N ks V W) (hB : Below w.heap.size w w') : SX w' v M N ks V W := h.keep hB.size (fun b hb => hB.block b (h.lt b hb))
structure SP (w : World) (M : Nat -> Prop) (w' : World) (v : Value) (N : Nat -> Prop) (ks : List (List UInt8)) (V : Vc) (W : List Nat) (M' : Nat -> Prop) : Prop where
 x : SX w' v M' N ks V W
 m : ∀ b, M' b -> M b \/ w.heap.size <= b
 c : Ch M w w'
theorem SP.same {w w' : World} {v : Value} {M N : Nat -> Prop} {ks : List (List UInt8)} {V : Vc} {W : List Nat} (h : SX w v M N ks V W) (hB : Below w.heap.size w w') : SP w M w' v N ks V W M := ⟨h.below hB, fun _ h => .inl h, (Ch.refl _ _).belowR hB⟩
theorem len_sC (uk : Value) (V : Vc) {T : List Nat} (h : T.length = 41) : (sC uk V T).length = 45 := by unfold sC; rw [List.length_append, len_u16s, h]; rfl
theorem sC_at {uk : Value} {V : Vc} {T : List Nat} {r S : Nat} (h : T[r]? = some S) : (sC uk V T)[4 + r]? = some (.int .u16 (S : Int)) := by
 unfold sC; rw [List.getElem?_append_right (by show 4 <= 4 + r; omega), show 4 + r - [uk, Value.slice none 0 0, .int .i64 V.n, .int .u16 (V.m : Int)].length = r from by show 4 + r - 4 = r; omega]; exact u16s_at h
theorem sC_set (uk : Value) (V : Vc) (T : List Nat) (r S : Nat) : (sC uk V T).set (4 + r) (.int .u16 (S : Int)) = sC uk V (T.set r S) := by
 unfold sC; rw [List.set_append_right _ _ (by show 4 <= 4 + r; omega), show 4 + r - [uk, Value.slice none 0 0, .int .i64 V.n, .int .u16 (V.m : Int)].length = r from by show 4 + r - 4 = r; omega, set_u16s]
theorem sC_k {w : World} {p : Nat} {uk : Value} {V : Vc} {T : List Nat} {t : TypeId} (h : Blk w p t (sC uk V T)) : w.rangeAt p 0 [uk, .slice none 0 0] := h.range 0 _ (fun j v hv => by
 match j, hv with
 | 0, hv => exact hv
 | 1, hv => exact hv
 | j + 2, hv => cases hv)
theorem sC_v {w : World} {p : Nat} {uk : Value} {V : Vc} {T : List Nat} {t : TypeId} (h : Blk w p t (sC uk V T)) : w.rangeAt p 2 [.int .i64 V.n, .int .u16 (V.m : Int)] := h.range 2 _ (fun j v hv => by
 match j, hv with
 | 0, hv => exact hv
 | 1, hv => exact hv
 | j + 2, hv => cases hv)
theorem isin19_any (S i : Nat) (w : World) (hS : S < 65536) (hi : i < 16) :
 Calls Tryz.prog 22 #[.int .u16 (S : Int), .int .i64 (i : Int)] w fun e w' => e = .returned (.bool (mbit S i)) /\ Below w.heap.size w w' := by
 have hbit := bit_eq S i hS; obtain ⟨b, hb⟩ := nm (mbit S i); rw [<- hb] at hbit |-; clear hb; go_enter Tryz.func22, Tryz.ntmps22; go_wp2; go_ret; exact ⟨rfl, Below.refl _ _⟩
theorem scount19_p (p : Nat) (uk : Value) (F : Nat -> Prop) (ks : List (List UInt8)) (V : Vc) (W T : List Nat) (r : Nat) (w : World) (hr : r < 41) (h : SM w p uk F ks V W T) :
 Calls Tryz.prog 18 #[.pointer (some ⟨p, 0, none⟩), .int .i64 (r : Int)] w fun e w' => e = .returned (.int .i64 (cntW W (r : Int) : Int)) /\ Below w.heap.size w w' := by
 obtain ⟨S, hS⟩ : ∃ S, T[r]? = some S := ⟨_, List.getElem?_eq_getElem (by rw [h.wd.len]; exact hr)⟩
 have hc := h.wd.cnt h.len hS; have hSl := (h.wd.at_ r S hS).1; have c4 := h.blk.cellAt (4 + r) _ (sC_at hS); have hone := fun Y => ones_any S Y hSl; rw [<- hc]; have hrI : (r : Int) < 41 := by omega
 have hr0 : ¬ (r : Int) < 0 := by omega
 have hr41 : ¬ (r : Int) >= 41 := by omega
 clear h hc hS; go_enter Tryz.func18, Tryz.ntmps18; go_wp2_with (fail); refine (hone _).mono ?_; rintro e w1 ⟨rfl, k, rfl⟩; go_wp2; go_ret; exact ⟨rfl, bel_drewN (Below.refl _ _) k⟩
end Go.Proofs.YtnhhbbjkeekneaaGreatDoor
