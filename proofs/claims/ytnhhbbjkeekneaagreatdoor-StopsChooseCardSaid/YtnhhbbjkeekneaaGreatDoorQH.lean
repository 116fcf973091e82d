/- QH: several texts in one (LW QG QH). -/
import Derived.Test.YtnhhbbjkeekneaaGreatDoorVA
import Derived.Test.YtnhhbbjkeekneaaGreatDoorQA
import Derived.Test.YtnhhbbjkeekneaaGreatDoorN6
import Derived.Test.YtnhhbbjkeekneaaGreatDoorM1
set_option maxRecDepth 100000
set_option maxHeartbeats 16000000
namespace Go.V
open Go.RowKit
structure WD (α : Type) (k : Nat) where
 dat : α -> List Dat
 len : ∀ a, (dat a).length = k
 pos : 0 < k
variable {α : Type} {k : Nat}
def wds (T : WD α k) (l : List α) : Dat := .sl l.length (l.flatMap T.dat)
structure WdEl (w : World) (F : Nat -> Prop) (T : WD α k) (a : α) (cs : List Value) : Prop where
 len : cs.length = k
 at_ : ∀ (j : Nat) (v : Value) (d : Dat), cs[j]? = some v -> (T.dat a)[j]? = some d -> Rd w F v d
theorem WdEl.keep {w w' : World} {F F' : Nat -> Prop} {T : WD α k} {a : α} {cs : List Value} (h : WdEl w F T a cs) (hF : ∀ b, b < w.heap.size -> F b -> F' b /\ w'.heap[b]? = w.heap[b]?) : WdEl w' F' T a cs :=
 ⟨h.len, fun j v d hv hd => (h.at_ j v d hv hd).keep hF⟩
theorem WdEl.below {w w' : World} {F : Nat -> Prop} {T : WD α k} {a : α} {cs : List Value} (h : WdEl w F T a cs) (hB : Below w.heap.size w w') : WdEl w' F T a cs :=
 h.keep (fun b hb hf => ⟨hf, hB.block b hb⟩)
theorem wdC_cons {w : World} {F : Nat -> Prop} {g : Nat} (d : Dat) (ds : List Dat) (off : Nat) : RdC w F g off (d :: ds) ↔ (∃ u, w.cell? ⟨g, off, none⟩ = some u /\ Rd w F u d) /\ RdC w F g (off + 1) ds := by
 rw [RdC]
theorem wdC_app {w : World} {F : Nat -> Prop} {g : Nat} : ∀ (x y : List Dat) (off : Nat), RdC w F g off (x ++ y) ↔ RdC w F g off x /\ RdC w F g (off + x.length) y
 | [], y, off => by simp [RdC]
 | d :: x, y, off => by
  rw [List.cons_append, wdC_cons, wdC_cons, wdC_app x y (off + 1), List.length_cons, show off + 1 + x.length = off + (x.length + 1) from by omega, and_assoc]
theorem wdC_out {w : World} {F : Nat -> Prop} {g : Nat} : ∀ (ds : List Dat) (off : Nat), RdC w F g off ds -> ∃ cs : List Value, cs.length = ds.length /\ w.rangeAt g off cs /\ ∀ (j : Nat) (v : Value) (d : Dat), cs[j]? = some v -> ds[j]? = some d -> Rd w F v d
 | [], off, _ => ⟨[], rfl, fun j v hv => by simp at hv, fun j v d hv => by simp at hv⟩
 | d :: ds, off, h => by
  obtain ⟨⟨u, hu, hr⟩, hc⟩ := (wdC_cons d ds off).1 h; obtain ⟨cs, h1, h2, h3⟩ := wdC_out ds (off + 1) hc; refine ⟨u :: cs, by simp [h1], fun j v hv => ?_, fun j v x hv hx => ?_⟩
  . cases j with
    | zero => simp at hv; subst hv; exact hu
    | succ j =>
     have := h2 j v (by simpa using hv)
     rwa [show off + 1 + j = off + (j + 1) from by omega] at this
  . cases j with
    | zero => simp at hv hx; subst hv hx; exact hr
    | succ j => exact h3 j v x (by simpa using hv) (by simpa using hx)
theorem wdC_in {w : World} {F : Nat -> Prop} {g : Nat} : ∀ (ds : List Dat) (cs : List Value) (off : Nat), cs.length = ds.length -> w.rangeAt g off cs -> (∀ (j : Nat) (v : Value) (d : Dat), cs[j]? = some v -> ds[j]? = some d -> Rd w F v d) -> RdC w F g off ds
 | [], _, off, _, _, _ => by simp [RdC]
 | d :: ds, [], off, hl, _, _ => by simp at hl
 | d :: ds, u :: cs, off, hl, h2, h3 => by
  refine (wdC_cons d ds off).2 ⟨⟨u, by simpa using h2 0 u rfl, h3 0 u d rfl rfl⟩, wdC_in ds cs (off + 1) (by simpa using hl) (fun j v hv => ?_) (fun j v x hv hx => h3 (j + 1) v x (by simpa using hv) (by simpa using hx))⟩; rw [show off + 1 + j = off + (j + 1) from by omega]; exact h2 (j + 1) v (by simpa using hv)
theorem wdC_el {w : World} {F : Nat -> Prop} {g : Nat} (T : WD α k) : ∀ (l : List α) (off i : Nat) (a : α), RdC w F g off (l.flatMap T.dat) -> l[i]? = some a -> RdC w F g (off + i * k) (T.dat a)
 | [], _, i, a, _, h => by simp at h
 | x :: l, off, 0, a, hc, h => by
  simp at h; subst h; rw [List.flatMap_cons, wdC_app] at hc; rw [Nat.zero_mul, Nat.add_zero]; exact hc.1
 | x :: l, off, i + 1, a, hc, h => by
  rw [List.flatMap_cons, wdC_app, T.len] at hc; rw [show off + (i + 1) * k = off + k + i * k from by rw [Nat.add_mul]; omega]; exact wdC_el T l (off + k) i a hc.2 (by simpa using h)
theorem wdC_of {w : World} {F : Nat -> Prop} {g : Nat} (T : WD α k) : ∀ (l : List α) (off : Nat), (∀ i a, l[i]? = some a -> RdC w F g (off + i * k) (T.dat a)) -> RdC w F g off (l.flatMap T.dat)
 | [], _, _ => by simp [RdC]
 | x :: l, off, h => by
  rw [List.flatMap_cons, wdC_app, T.len]; refine ⟨by simpa using h 0 x rfl, wdC_of T l (off + k) (fun i a hi => ?_)⟩; rw [show off + k + i * k = off + (i + 1) * k from by rw [Nat.add_mul]; omega]; exact h (i + 1) a (by simpa using hi)
theorem wds_shape {w : World} {F : Nat -> Prop} {T : WD α k} {v : Value} {l : List α} (h : Rd w F v (wds T l)) : ∃ A c, v = .slice A l.length c /\ l.length <= c /\ c <= maxLen := by
 unfold wds Rd at h; obtain ⟨A, c, hv, h1, h2, _⟩ := h; exact ⟨A, c, hv, h1, h2⟩
theorem wd_ne {T : WD α k} {l : List α} {i : Nat} {a : α} (h : l[i]? = some a) : l.flatMap T.dat ≠ [] := by
 match l, h with
 | x :: l, _ =>
  rw [List.flatMap_cons]; intro e; have h1 := T.len x; rw [(List.append_eq_nil_iff.1 e).1] at h1; have h2 := T.pos; simp at h1; omega
theorem wd_el {w : World} {F : Nat -> Prop} {T : WD α k} {l : List α} {A : Option Addr} {n c : Nat} (h : Rd w F (.slice A n c) (wds T l)) {i : Nat} {a : α} (hi : l[i]? = some a) : ∃ g off cs, A = some ⟨g, off, none⟩ /\ F g /\ w.rangeAt g (off + i * k) cs /\ WdEl w F T a cs := by
 unfold wds Rd at h; obtain ⟨A', c', hv, _, _, _, h4⟩ := h; obtain ⟨g, off, hA, hg, hc⟩ := h4 (wd_ne hi); injection hv with hv
 obtain ⟨cs, h1, h2, h3⟩ := wdC_out _ _ (wdC_el T l off i a hc hi); exact ⟨g, off, cs, hv.trans hA, hg, h2, by rw [h1, T.len], h3⟩
def WdX (w : World) (F : Nat -> Prop) (T : WD α k) : List α -> List Value -> Prop
 | [], xs => xs = []
 | a :: l, xs => ∃ cs ys, xs = cs ++ ys /\ WdEl w F T a cs /\ WdX w F T l ys
theorem WdX.keep {w w' : World} {F F' : Nat -> Prop} {T : WD α k} (hF : ∀ b, b < w.heap.size -> F b -> F' b /\ w'.heap[b]? = w.heap[b]?) : ∀ {l : List α} {xs : List Value}, WdX w F T l xs -> WdX w' F' T l xs
 | [], _, h => h
 | _ :: _, _, ⟨cs, ys, h1, h2, h3⟩ => ⟨cs, ys, h1, h2.keep hF, h3.keep hF⟩
theorem WdX.snoc {w : World} {F : Nat -> Prop} {T : WD α k} {a : α} {cs : List Value} (ha : WdEl w F T a cs) : ∀ {l : List α} {xs : List Value}, WdX w F T l xs -> WdX w F T (l ++ [a]) (xs ++ cs)
 | [], _, h => by
  have h : _ = [] := h; subst h; exact ⟨cs, [], by simp, ha, rfl⟩
 | x :: l, _, ⟨ds, ys, h1, h2, h3⟩ => ⟨ds, ys ++ cs, by rw [h1, List.append_assoc], h2, WdX.snoc ha h3⟩
theorem WdX.el {w : World} {F : Nat -> Prop} {T : WD α k} {g : Nat} : ∀ {l : List α} {xs : List Value} (off : Nat), WdX w F T l xs -> w.rangeAt g off xs -> ∀ i a, l[i]? = some a -> RdC w F g (off + i * k) (T.dat a)
 | [], _, _, _, _, i, a, hi => by simp at hi
 | x :: l, xs, off, ⟨cs, ys, h1, h2, _⟩, hg, 0, a, hi => by
  simp at hi; subst hi h1; rw [Nat.zero_mul, Nat.add_zero]; refine wdC_in _ cs off (by rw [h2.len, T.len]) (fun j v hv => hg j v ?_) h2.at_; rw [List.getElem?_append_left (List.getElem?_eq_some_iff.1 hv).1]; exact hv
 | x :: l, xs, off, ⟨cs, ys, h1, h2, h3⟩, hg, i + 1, a, hi => by
  subst h1; have hl := h2.len
  have hg' : w.rangeAt g (off + k) ys := fun j v hv => by
   have := hg (k + j) v (by rw [List.getElem?_append_right (by omega), hl, Nat.add_sub_cancel_left]; exact hv)
   rwa [<- Nat.add_assoc] at this
  have := WdX.el (off + k) h3 hg' i a (by simpa using hi)
  rwa [show off + k + i * k = off + (i + 1) * k from by rw [Nat.add_mul]; omega] at this
theorem wds_own {w : World} {base : Nat} {e : TypeId} {F : Nat -> Prop} {T : WD α k} {v : Value} {l : List α} {xs : List Value} (ho : w.ownsRow base e k v l.length xs) (hx : WdX w F T l xs) {F' : Nat -> Prop} (hF : ∀ b, F b -> F' b) (hb : ∀ b, v.ownBlock = some b -> F' b) : Rd w F' v (wds T l) := by
 unfold wds Rd; have hx := hx.keep (F' := F') (fun b _ h => ⟨hF b h, rfl⟩); rcases ho.2 with ⟨rfl, h0⟩ | ⟨g, cap, cur, rfl, hg, hh, h1, h2, h3, h4⟩
 . have : l = [] := List.eq_nil_of_length_eq_zero h0; subst this; exact ⟨none, 0, rfl, Nat.le_refl _, by simp [maxLen], fun _ => rfl, fun h => absurd rfl h⟩
 . refine ⟨_, cap, rfl, h1, h2, fun h => by rw [List.eq_nil_of_length_eq_zero h]; rfl, fun _ => ⟨g, 0, rfl, hb g rfl, wdC_of T l 0 (fun i a hi => ?_)⟩⟩
   have hr : w.rangeAt g 0 xs := fun j u hu => by
    have := ho.cells (g := g) rfl j u hu
    rwa [add_mk] at this
   exact hx.el 0 hr i a hi
theorem WdX.len {w : World} {F : Nat -> Prop} {T : WD α k} : ∀ {l : List α} {xs : List Value}, WdX w F T l xs -> xs.length = l.length * k
 | [], _, h => by have h : _ = [] := h; subst h; simp
 | _ :: _, _, ⟨cs, ys, h1, h2, h3⟩ => by rw [h1, List.length_append, h2.len, h3.len, List.length_cons, Nat.add_mul]; omega
theorem WdX.get {w : World} {F : Nat -> Prop} {T : WD α k} : ∀ {l : List α} {xs : List Value} (_ : WdX w F T l xs) (i : Nat) (a : α), l[i]? = some a -> ∃ cs, WdEl w F T a cs /\ ∀ (j : Nat) (v : Value), cs[j]? = some v -> xs[i * k + j]? = some v
 | [], _, _, i, a, hi => by simp at hi
 | x :: l, xs, ⟨cs, ys, h1, h2, _⟩, 0, a, hi => by
  simp at hi; subst hi h1; refine ⟨cs, h2, fun j v hv => ?_⟩; rw [Nat.zero_mul, Nat.zero_add, List.getElem?_append_left (List.getElem?_eq_some_iff.1 hv).1]; exact hv
 | x :: l, xs, ⟨cs, ys, h1, h2, h3⟩, i + 1, a, hi => by
  subst h1; obtain ⟨ds, h4, h5⟩ := WdX.get h3 i a (by simpa using hi); refine ⟨ds, h4, fun j v hv => ?_⟩; have hl := h2.len; rw [show (i + 1) * k + j = k + (i * k + j) from by rw [Nat.add_mul]; omega, List.getElem?_append_right (by omega), hl, Nat.add_sub_cancel_left]; exact h5 j v hv
theorem wds_nil {w : World} {F : Nat -> Prop} {T : WD α k} : Rd w F (.slice none 0 0) (wds T []) := by
 unfold wds Rd; exact ⟨none, 0, rfl, Nat.le_refl _, by simp [maxLen], fun _ => rfl, fun h => absurd rfl h⟩
end Go.V
namespace Go.Proofs.YtnhhbbjkeekneaaGreatDoor
open Go.RowKit Go.V
def txtR (X : List UInt8) : Except Nat Rq := if X.length < 4 then .error 1 else match readPk (X.drop 4) with
 | .error e => .error e
 | .ok (a, za) => match readPk (X.drop (4 + za)) with
  | .error e => .error e
  | .ok (b, zb) => if 4 + za + zb < X.length then .error 2 else .ok ⟨((X.getD 0 0).toNat : Int), ((X.getD 1 0).toNat : Int), ((X.getD 2 0).toNat : Int), ((X.getD 3 0).toNat : Int), unfoldZ a, unfoldZ b, []⟩
def gtR7 (X : List UInt8) : Except Nat Rq := match textR 100 X with
 | .error e => .error e
 | .ok (n, z) => match txtR ((X.drop z).take n) with
  | .error e => .error e
  | .ok r => match textR 1000 (X.drop (z + n)) with
   | .error e => .error e
   | .ok (m, y) => if z + n + (y + m) < X.length then .error 2 else
    if ({ r with g := ((X.drop (z + n)).drop y).take m } : Rq).fm = true then .ok { r with g := ((X.drop (z + n)).drop y).take m } else .error 15
def oneR (X : List UInt8) (l : List Rq) (k : Nat) : Except Nat (List Rq × Nat) := match textR 2000 (X.drop k) with
 | .error e => .error e
 | .ok (n, z) => match gtR7 (((X.drop k).drop z).take n) with
  | .error e => .error e
  | .ok r => .ok (l ++ [r], k + (z + n))
def itR (X : List UInt8) (z : Nat) : Nat -> Except Nat (List Rq × Nat)
 | 0 => .ok ([], z)
 | i + 1 => match itR X z i with
  | .error e => .error e
  | .ok (l, k) => oneR X l k
def gbR7 (X : List UInt8) : Except Nat (List Rq) := match cntR 4 (readPk X) with
 | .error e => .error e
 | .ok (c, z) => match itR X z c with
  | .error e => .error e
  | .ok (l, k) => if k < X.length then .error 2 else if fmB l = true then .ok l else .error 15
theorem it_err {X : List UInt8} {z i : Nat} {e : Nat} (h : itR X z i = .error e) : ∀ c, i <= c -> itR X z c = .error e := by
 intro c hc
 induction hc with
 | refl => exact h
 | step _ ih => rw [itR, ih]
theorem it_next {X : List UInt8} {z i k : Nat} {l : List Rq} (h : itR X z i = .ok (l, k)) : itR X z (i + 1) = oneR X l k := by rw [itR, h]
theorem it_len {X : List UInt8} {z : Nat} : ∀ {i k : Nat} {l : List Rq}, itR X z i = .ok (l, k) -> l.length = i
 | 0, k, l, h => by rw [itR] at h; injection h with h; injection h with h _; subst h; rfl
 | i + 1, k, l, h => by
  rw [itR] at h
  split at h
  . cases h
  . rename_i l0 k0 h0; have := it_len h0; unfold oneR at h
    split at h
    . cases h
    . split at h
      . cases h
      . injection h with h
        injection h with h _
        subst h; rw [List.length_append, this]; rfl
def chkR (R : List (List UInt8)) (vE vN : List UInt8 -> List UInt8 -> List UInt8 -> Int) (r : Rq) : Int :=
 if r.fm = false then 15 else match R[r.c.toNat]? with
 | none => 6
 | some root => if vE root r.text r.g ≠ 0 then vE root r.text r.g else if vN root r.text r.g ≠ r.s - 1 then 5 else 0
def Hx : Type := { h : List UInt8 // h.length = 32 }
def hxD : WD Hx 32 := ⟨fun x => (bvs x.1).map Dat.atom, fun x => by rw [List.length_map, len_bvs]; exact x.2, by omega⟩
theorem hx_open {w : World} {F : Nat -> Prop} {x : Hx} {cs : List Value} (h : WdEl w F hxD x cs) : cs = bvs x.1 := by
 have hl := h.len; refine List.ext_getElem? (fun j => ?_); rcases Nat.lt_or_ge j 32 with hj | hj
 . have hb : j < (bvs x.1).length := by rw [len_bvs, x.2]; exact hj
   rw [List.getElem?_eq_getElem (by omega), List.getElem?_eq_getElem hb]
   have hd : (hxD.dat x)[j]? = some (Dat.atom (bvs x.1)[j]) := by
    show ((bvs x.1).map Dat.atom)[j]? = _; rw [List.getElem?_map, List.getElem?_eq_getElem hb]; rfl
   have := h.at_ j cs[j] _ (List.getElem?_eq_getElem (by omega)) hd; unfold Rd at this; rw [this]
 . rw [List.getElem?_eq_none (by omega), List.getElem?_eq_none (by rw [len_bvs, x.2]; exact hj)]
theorem hx_mk {w : World} {F : Nat -> Prop} {x : Hx} : WdEl w F hxD x (bvs x.1) := ⟨by rw [len_bvs]; exact x.2, fun j v d hv hd => by
 have hd : ((bvs x.1).map Dat.atom)[j]? = some d := hd; rw [List.getElem?_map, hv] at hd; simp at hd; subst hd; unfold Rd; rfl⟩
def stR (X : List UInt8) : Nat -> Except Nat (Nat × List Int)
 | 0 => .ok (4, [0, 0])
 | i + 1 => match stR X i with
  | .error e => .error e
  | .ok (m, l) => match readPk (X.drop m) with
   | .error e => .error e
   | .ok (c, z) => .ok (m + z, l.set i (unfoldZ c))
theorem st_err {X : List UInt8} {i e : Nat} (h : stR X i = .error e) : ∀ c, i <= c -> stR X c = .error e := by
 intro c hc
 induction hc with
 | refl => exact h
 | step _ ih => rw [stR, ih]
theorem st_len {X : List UInt8} : ∀ {i m : Nat} {l : List Int}, stR X i = .ok (m, l) -> l.length = 2
 | 0, m, l, h => by rw [stR] at h; injection h with h; injection h with _ h; subst h; rfl
 | i + 1, m, l, h => by
  rw [stR] at h
  split at h
  . cases h
  . rename_i m0 l0 h0
    split at h
    . cases h
    . injection h with h
      injection h with _ h
      subst h; rw [List.length_set]; exact st_len h0
def rqX (X : List UInt8) (a b : Int) : Rq := ⟨((X.getD 0 0).toNat : Int), ((X.getD 1 0).toNat : Int), ((X.getD 2 0).toNat : Int), ((X.getD 3 0).toNat : Int), a, b, []⟩
theorem txt_st (X : List UInt8) : txtR X = if X.length < 4 then .error 1 else match stR X 2 with
 | .error e => .error e
 | .ok (m, l) => if m < X.length then .error 2 else .ok (rqX X (l.getD 0 0) (l.getD 1 0)) := by
 unfold txtR; by_cases h4 : X.length < 4
 . rw [if_pos h4, if_pos h4]
 . rw [if_neg h4, if_neg h4]; have e0 : stR X 0 = .ok (4, [0, 0]) := rfl; cases h0 : readPk (X.drop 4) with
   | error e =>
    have e1 : stR X 1 = .error e := by rw [stR, e0]; show (match readPk (X.drop 4) with | .error e => Except.error e | .ok (c, z) => .ok (4 + z, [0, 0].set 0 (unfoldZ c))) = _; rw [h0]
    have e2 : stR X 2 = .error e := st_err e1 2 (by omega); rw [e2]
   | ok r =>
    obtain ⟨a, za⟩ := r; have e1 : stR X 1 = .ok (4 + za, [unfoldZ a, 0]) := by rw [stR, e0]; show (match readPk (X.drop 4) with | .error e => Except.error e | .ok (c, z) => .ok (4 + z, [0, 0].set 0 (unfoldZ c))) = _; rw [h0]; rfl
    dsimp only; cases h1 : readPk (X.drop (4 + za)) with
    | error e =>
     have e2 : stR X 2 = .error e := by rw [stR, e1]; show (match readPk (X.drop (4 + za)) with | .error e => Except.error e | .ok (c, z) => .ok (4 + za + z, [unfoldZ a, 0].set 1 (unfoldZ c))) = _; rw [h1]
     rw [e2]
    | ok r =>
     obtain ⟨b, zb⟩ := r; have e2 : stR X 2 = .ok (4 + za + zb, [unfoldZ a, unfoldZ b]) := by rw [stR, e1]; show (match readPk (X.drop (4 + za)) with | .error e => Except.error e | .ok (c, z) => .ok (4 + za + z, [unfoldZ a, 0].set 1 (unfoldZ c))) = _; rw [h1]; rfl
     rw [e2]; rfl
theorem fix1_at (X : List UInt8) (i : Nat) : fixRd 1 (X.drop i) = if X.length <= i then .error 1 else .ok (X.getD i 0).toNat := by
 unfold fixRd; rw [if_pos (by unfold okN; omega), List.length_drop]; by_cases h : X.length <= i
 . rw [if_pos h, if_pos (by show X.length - i < 1; omega)]
 . rw [if_neg h, if_neg (by show ¬ X.length - i < 1; omega)]
   have e : X.drop i = X.getD i 0 :: X.drop (i + 1) := by
    rw [List.drop_eq_getElem_cons (by omega)]
    congr 1
    rw [List.getD_eq_getElem?_getD, List.getElem?_eq_getElem (by omega)]; rfl
   rw [e]; show Except.ok (fixN [X.getD i 0]) = _; unfold fixN; simp
def TxQ (w : World) (r : Except Nat Rq) (e : Ending) (w' : World) : Prop := match r with
 | .ok r => e = .returned (.tuple #[.agg (r.l (.slice none 0 0)).toArray, .int .i64 0]) /\ Below w.heap.size w w'
 | .error er => e = .returned (.tuple #[.agg zQ.toArray, .int .i64 (er : Int)]) /\ Below w.heap.size w w'
theorem TxQ.err {w w' : World} {r : Except Nat Rq} {er : Nat} (h : r = .error er) (hB : Below w.heap.size w w') : TxQ w r (.returned (.tuple #[.agg zQ.toArray, .int .i64 (er : Int)])) w' := by rw [h]; exact ⟨rfl, hB⟩
theorem bldZQ : ∀ W : World, (Instr.build 126 #[]).run Tryz.prog W = .ok (.agg zQ.toArray) W := fun _ => by kernel_rfl
theorem zQ_one : ∀ v ∈ zQ, v.oneCell' = true := by decide
theorem rdText7_any (v : Value) (X : List UInt8) (F : Nat -> Prop) (w : World) (hv : Rd w F v (bys X)) (hXl : X.length <= 1000000) :
 Calls Tryz.prog 139 #[v] w (TxQ w (txtR X)) := by
 have htx := txt_st X; have hse := fun i e h => st_err (X := X) (i := i) (e := e) h 2; have hsl := fun i m l h => st_len (X := X) (i := i) (m := m) (l := l) h; have hf4 := fix1_at X; obtain ⟨A, cp, rfl⟩ := hv.shape; obtain ⟨T, hT⟩ := nm (txtR X); rw [<- hT] at htx |-; have Htx := hid htx; have Hse := hid hse; have Hsl := hid hsl; have Hf4 := hid hf4; clear hT htx hse hsl hf4; have hbz := bldZQ; have hB : Below w.heap.size w (w.alloc (.cells #[.int .i64 0, .int .i64 0, .int .i64 0, .int .i64 0, .int .i64 0, .int .i64 0, .slice none 0 0] 126)) := (Below.refl _ _).alloc (Nat.le_refl _) _; have hz := Blk.new' w 126 zQ; have hbr := hv.below hB; go_enter Tryz.func139, Tryz.ntmps139; go_wp2_with (fail); obtain ⟨w0, hw0⟩ := nm (w.alloc (.cells #[.int .i64 0, .int .i64 0, .int .i64 0, .int .i64 0, .int .i64 0, .int .i64 0, .slice none 0 0] 126)); have hz : Blk w0 w.heap.size 126 zQ := by rw [hw0]; exact hz
 rw [<- hw0] at hB hbr |-; clear hw0; obtain ⟨g0, hg0⟩ := nm (w.heap.size); rw [<- hg0] at hz |-; have hgw : w.heap.size <= g0 := by omega
 clear hg0; refine (new_any _ X F _ hbr (by omega)).mono ?_; rintro e w1 ⟨p, rfl, hp, hr1, hB1⟩; have hB1' : Below w.heap.size w w1 := hB.trans (hB1.mono hB.size); have hz1 := hz.below hB1; have hgl := hz.lt; have hpw : w.heap.size <= p := by have := hB.size; omega
 have hpl : p < w1.heap.size := by obtain ⟨_, h, _⟩ := hr1; exact lt_of_block h
 obtain ⟨FF, hFF⟩ := nm (fun b => w0.heap.size <= b /\ b < p); rw [<- hFF] at hr1; have hFp : ∀ b, FF b -> b < p /\ g0 < b := fun b h => by rw [hFF] at h; exact ⟨h.2, by have := h.1; omega⟩
 clear hFF; have hal2 : Below w1.heap.size w1 (w1.alloc (.cells #[.int .i64 0, .int .i64 0, .int .i64 0, .int .i64 0] 201)) := (Below.refl _ _).alloc (Nat.le_refl _) _; have hs2 := Blk.new' w1 201 [.int .i64 0, .int .i64 0, .int .i64 0, .int .i64 0]; have hr2 := hr1.belowR hal2; have hz2 := hz1.below hal2; have hB2 := hB1'.trans (hal2.mono hB1'.size); clear hz hbr hr1 hz1 hal2; go_wp2; obtain ⟨w2, hw2⟩ := nm (w1.alloc (.cells #[.int .i64 0, .int .i64 0, .int .i64 0, .int .i64 0] 201)); rw [<- hw2] at hs2 hr2 hz2 hB2 |-; clear hw2; obtain ⟨gs, hgs⟩ := nm (w1.heap.size); rw [<- hgs] at hs2 |-; have hps : p < gs := by omega
 clear hgs hpl; obtain ⟨L, hL⟩ : ∃ L : List Value, L = [.int .i64 ((X.getD 0 0).toNat : Int), .int .i64 ((X.getD 1 0).toNat : Int), .int .i64 ((X.getD 2 0).toNat : Int), .int .i64 ((X.getD 3 0).toNat : Int)] := ⟨_, rfl⟩
 have hLl : L.length = 4 := by rw [hL]; rfl
 have hLa : ∀ i, i < 4 -> L[i]? = some (.int .i64 ((X.getD i 0).toNat : Int)) := fun i hi => by
  rw [hL]
  match i, hi with
  | 0, _ => rfl
  | 1, _ => rfl
  | 2, _ => rfl
  | 3, _ => rfl
 have HL := hid hL; have HLl := hid hLl; have HLa := hid hLa; clear hL hLl hLa
 go_loopw [17] (fun iv wr => ∃ i : Nat, i <= 4 /\ i <= X.length /\ iv = .int .i64 i /\ RdR wr p FF X i /\ Blk wr gs 201 (L.take i ++ List.replicate (4 - i) (.int .i64 0)) /\ Blk wr g0 126 zQ /\ Below w.heap.size w wr) (fun i _ => 4 - (intOf i).toNat)
 case atStart => exact ⟨0, Nat.zero_le _, Nat.zero_le _, rfl, hr2, hs2, hz2, hB2⟩
 case round =>
  obtain ⟨i, hi, hiX, rfl, hr3, hs3, hz3, hB3⟩ := hrel; by_cases hlt : i < 4
  . have hI : (i : Int) < 4 := by omega
    have f1 := fixed_any p _ X i 1 _ hr3; rw [Hf4.out] at f1; by_cases hX2 : X.length <= i
    . rw [if_pos hX2] at f1; have Hf := hid f1; have Ht : Hid (T = .error 1) := hid (Htx.out.trans (if_pos (by omega))); clear f1 hr3 Htx; go_wp2_with (fail); refine Hf.out.mono ?_; rintro e w4 ⟨rfl, hr4, hC4⟩; have hz4 := hz3.ch hC4 (by intro h; have h' : g0 = p := h; omega); have hB4 := Ch.below_of hB3 hC4 (fun k hk => by have : k = p := hk; omega) hB3.size; simp only [eF]; clear hr4 hs3 hz3 hC4; go_wp2_with (first | refine wp_bld 126 [] rfl rfl [] rfl hbz ?_ | (refine wp_st 126 (.tmp 2) (.tmp 27) rfl rfl rfl (f := 0) rfl (l := zQ) rfl hz4 (by simp [zQ]) sizeQ zQ_one ?_; intro w9 hd9 hG9; refine wp_stop ?_)); refine wp_go ?_; go_wp2; refine ret_cell1 rfl rfl rfl hd9.whole Tryz.underlying126 rfl sizeQ rfl ?_; exact TxQ.err Ht.out (hB4.grown hG9 hB4.size (sk (by omega)))
    rw [if_neg hX2] at f1; obtain ⟨n, hn⟩ := nm ((X.getD i 0).toNat); have hn256 : n < 256 := by rw [hn]; exact (X.getD i 0).toNat_lt
    have hat := HLa.out i hlt; rw [<- hn] at f1 hat; have hwn : IntKind.i64.wrap (n : Int) = (n : Int) := IntWalk.i64_in _ (by omega); have Hf := hid f1; have Hat := hid hat; clear f1 hat hr3 hn; have Hfl := hid (fill_set L (.int .i64 0) 4 i HLl.out hlt (.int .i64 (n : Int)) Hat.out)
    have Hlen : Hid ((L.take i ++ List.replicate (4 - i) (Value.int .i64 0)).length = 4) := by
     show _ = _; rw [List.length_append, List.length_take, List.length_replicate, HLl.out]; omega
    go_wp2_with (fail); refine Hf.out.mono ?_; rintro e w4 ⟨rfl, hr4, hC4⟩; have hs4 := hs3.ch hC4 (by intro h; have h' : gs = p := h; omega); have hz4 := hz3.ch hC4 (by intro h; have h' : g0 = p := h; omega); have hB4 := Ch.below_of hB3 hC4 (fun k hk => by have : k = p := hk; omega) hB3.size; simp only [eF]; go_wp2_with (refine wp_st1 3 (.tmp 32) (.tmp 31) rfl rfl rfl (f := i) rfl (v := .int .i64 (n : Int)) rfl hs4 (by rw [Hlen.out]; omega) sizeI7 rfl rfl ?_; intro w5 hs5 hG5; rw [Hfl.out] at hs5)
    go_roundw
    case rel =>
     refine ⟨i + 1, by omega, by omega, by go_num, ?_, hs5, hz4.keep (hG5.block _ hz4.lt (by intro h; injection h with h; omega)), hB4.grown hG5 hB4.size (sk (by omega))⟩; obtain ⟨_, hpb, _⟩ := id hr4; refine RdR.keep (k := i + 1) hr4 (hG5.block _ (lt_of_block hpb) (by intro h; injection h with h; omega)) (fun b hb hF => hG5.block _ hb (by intro h; injection h with h; have := hFp b hF; omega))
    case measure => simp [intOf]; omega
  . have h4' : i = 4 := by omega
    subst h4'; have hI : ¬ (4 : Int) < 4 := by omega
    have hs3 : Blk wr gs 201 L := by
     rw [<- List.append_nil L, <- show L.take 4 = L from List.take_of_length_le (by rw [HLl.out]; omega)]; exact hs3
    rw [HL.out] at hs3; have Htx2 := hid (Htx.out.trans (if_neg (by omega))); obtain ⟨C, hC⟩ := nm ((X.getD 0 0).toNat); obtain ⟨S, hS⟩ := nm ((X.getD 1 0).toNat); obtain ⟨K, hK⟩ := nm ((X.getD 2 0).toNat); obtain ⟨Y, hY⟩ := nm ((X.getD 3 0).toNat); rw [<- hC, <- hS, <- hK, <- hY] at hs3; have Hrq : Hid (∀ a b, rqX X a b = ⟨(C : Int), (S : Int), (K : Int), (Y : Int), a, b, []⟩) := hid (fun a b => by rw [hC, hS, hK, hY]; rfl); clear HL HLl HLa hC hS hK hY Htx; have hal4 : Below wr.heap.size wr (wr.alloc (.cells #[.int .i64 0, .int .i64 0] 212)) := (Below.refl _ _).alloc (Nat.le_refl _) _; have hy4 := Blk.new' wr 212 [.int .i64 0, .int .i64 0]; have hr4 := hr3.belowR hal4; have hz4 := hz3.below hal4; have hs4 := hs3.below hal4; have hsl := hs3.lt; have hB4 := hB3.trans (hal4.mono hB3.size); clear hr3 hz3 hs3 hal4 hs2 hr2 hz2; go_wp2; obtain ⟨w4, hw4⟩ := nm (wr.alloc (.cells #[.int .i64 0, .int .i64 0] 212)); rw [<- hw4] at hs4 hr4 hz4 hB4 hy4 |-; clear hw4; obtain ⟨gy, hgy⟩ := nm (wr.heap.size); rw [<- hgy] at hy4 |-; have hsy : gs < gy := by omega
    clear hgy
    go_loopw [34] (fun iv wr => ∃ (i m : Nat) (l : List Int), i <= 2 /\ iv = .int .i64 i /\ RdR wr p FF X m /\ Hid (stR X i = .ok (m, l)) /\ Blk wr gy 212 (l.map (fun (x : Int) => Value.int .i64 x)) /\ Blk wr gs 201 [.int .i64 (C : Int), .int .i64 (S : Int), .int .i64 (K : Int), .int .i64 (Y : Int)] /\ Blk wr g0 126 zQ /\ Below w.heap.size w wr) (fun i _ => 2 - (intOf i).toNat)
    case atStart => exact ⟨0, 4, [0, 0], Nat.zero_le _, rfl, hr4, rfl, hy4, hs4, hz4, hB4⟩
    case round =>
     clear hr4 hy4 hs4 hz4 hB4; obtain ⟨i, m, l, hi2, rfl, hr5, hst, hy5, hs5, hz5, hB5⟩ := hrel; have hll := Hsl.out i m l hst.out; by_cases hlt : i < 2
     . have hI2 : (i : Int) < 2 := by omega
       have f1 := folded_any p _ X m _ hr5; cases hq : readPk (X.drop m) with
       | error e =>
        have hep := rdF_err _ _ _ _ hq; have hne : ((e : Int) != 0) = true := by rw [bne_iff_ne]; omega
        have h2 : stR X 2 = .error e := Hse.out (i + 1) e (by rw [stR, hst.out]; show (match readPk (X.drop m) with | .error e => Except.error e | .ok (c, z) => .ok (m + z, l.set i (unfoldZ c))) = _; rw [hq]) (by omega); have Ht : Hid (T = .error e) := hid (by rw [Htx2.out, h2]); rw [hq] at f1; have Hf := hid f1; clear f1 hr5 hq h2 Htx2; go_wp2_with (fail); refine Hf.out.mono ?_; rintro e' w6 ⟨rfl, hr6, hC6⟩; have hz6 := hz5.ch hC6 (by intro h; have h' : g0 = p := h; omega); have hB6 := Ch.below_of hB5 hC6 (fun k hk => by have : k = p := hk; omega) hB5.size; simp only [e2]; clear hr6 hC6 hz5 hs5 hy5; go_wp2_with (first | refine wp_bld 126 [] rfl rfl [] rfl hbz ?_ | (refine wp_st 126 (.tmp 2) (.tmp 44) rfl rfl rfl (f := 0) rfl (l := zQ) rfl hz6 (by simp [zQ]) sizeQ zQ_one ?_; intro w9 hd9 hG9; refine wp_stop ?_)); refine wp_go ?_; go_wp2; refine ret_cell1 rfl rfl rfl hd9.whole Tryz.underlying126 rfl sizeQ rfl ?_; exact TxQ.err Ht.out (hB6.grown hG9 hB6.size (sk (by omega)))
       | ok r =>
        obtain ⟨c, z⟩ := r; have hnx : stR X (i + 1) = .ok (m + z, l.set i (unfoldZ c)) := by rw [stR, hst.out]; show (match readPk (X.drop m) with | .error e => Except.error e | .ok (c, z) => .ok (m + z, l.set i (unfoldZ c))) = _; rw [hq]
        have Hnx := hid hnx; rw [hq] at f1; obtain ⟨x, hx⟩ := nm (unfoldZ c); have hset : (l.map (fun (x : Int) => Value.int .i64 x)).set i (.int .i64 x) = (l.set i x).map (fun (x : Int) => Value.int .i64 x) := by rw [List.map_set]
        have Hset := hid hset; have Hx := hid hx; have hlm : (l.map (fun (x : Int) => Value.int .i64 x)).length = 2 := by rw [List.length_map]; exact hll
        obtain ⟨lm, elm⟩ := nm (l.map (fun (x : Int) => Value.int .i64 x)); rw [<- elm] at hy5 Hset hlm; have Hlm := hid hlm; have Hf := hid f1; clear f1 hr5 hq hnx hset hx elm hlm hst; go_wp2_with (fail); refine Hf.out.mono ?_; rintro e w6 ⟨rfl, hr6, hC6⟩; have hs6 := hs5.ch hC6 (by intro h; have h' : gs = p := h; omega); have hz6 := hz5.ch hC6 (by intro h; have h' : g0 = p := h; omega); have hy6 := hy5.ch hC6 (by intro h; have h' : gy = p := h; omega); have hB6 := Ch.below_of hB5 hC6 (fun k hk => by have : k = p := hk; omega) hB5.size; simp only [e2, lenP] at hr6 |-; rw [<- Hx.out]; go_wp2_with (refine wp_st1 2 (.tmp 48) (.tmp 47) rfl rfl rfl (f := i) rfl (v := .int .i64 x) rfl hy6 (by rw [Hlm.out]; omega) sizeL7 rfl rfl ?_; intro w7 hy7 hG7; rw [Hset.out] at hy7)
        go_roundw
        case rel =>
         refine ⟨i + 1, m + z, _, by omega, by go_num, ?_, by rw [Hx.out]; exact Hnx, hy7, hs6.keep (hG7.block _ hs6.lt (by intro h; injection h with h; omega)), hz6.keep (hG7.block _ hz6.lt (by intro h; injection h with h; omega)), hB6.grown hG7 hB6.size (sk (by omega))⟩; obtain ⟨_, hpb, _⟩ := id hr6; refine RdR.keep hr6 (hG7.block _ (lt_of_block hpb) (by intro h; injection h with h; omega)) (fun b hb hF => hG7.block _ hb (by intro h; injection h with h; have := hFp b hF; omega))
        case measure => simp [intOf]; omega
     . have hi2' : i = 2 := by omega
       subst hi2'; have hI2 : ¬ (2 : Int) < 2 := by omega
       have hT2 : T = if m < X.length then .error 2 else .ok (rqX X (l.getD 0 0) (l.getD 1 0)) := by rw [Htx2.out, hst.out]
       obtain ⟨a, b, rfl⟩ : ∃ a b : Int, l = [a, b] := by
        match l, hll with
        | [a, b], _ => exact ⟨a, b, rfl⟩
       have HT2 := hid hT2; have f1 := done_any p _ X _ _ hr5; clear Htx2 hst hT2; by_cases hlo : m < X.length
       . rw [if_pos hlo] at f1; have Ht : Hid (T = .error 2) := hid (HT2.out.trans (if_pos hlo)); have Hf := hid f1; clear f1 hr5 HT2; go_wp2_with (fail); refine Hf.out.mono ?_; rintro e w6 ⟨rfl, nn, rfl⟩; have hz6 := hz5.drewN nn; have hB6 := Go.below_drewN hB5 nn; obtain ⟨w6, hw6⟩ := nm (wr.drewN nn); rw [<- hw6] at hz6 hB6 |-; clear hw6 hs5 hz5 hy5 hB5; go_wp2_with (first | refine wp_bld 126 [] rfl rfl [] rfl hbz ?_ | (refine wp_st 126 (.tmp 2) (.tmp 54) rfl rfl rfl (f := 0) rfl (l := zQ) rfl hz6 (by simp [zQ]) sizeQ zQ_one ?_; intro w9 hd9 hG9; refine wp_stop ?_)); refine wp_go ?_; go_wp2; refine ret_cell1 rfl rfl rfl hd9.whole Tryz.underlying126 rfl sizeQ rfl ?_; exact TxQ.err Ht.out (hB6.grown hG9 hB6.size (sk (by omega)))
       rw [if_neg hlo] at f1; have Ht : Hid (T = .ok ⟨(C : Int), (S : Int), (K : Int), (Y : Int), a, b, []⟩) := hid ((HT2.out.trans (if_neg hlo)).trans (by rw [Hrq.out]; rfl)); have hy5 : Blk wr gy 212 [.int .i64 a, .int .i64 b] := hy5; clear HT2 Hrq; have Hf := hid f1; clear f1 hr5; go_wp2_with (fail); refine Hf.out.mono ?_; rintro e w6 ⟨rfl, nn, rfl⟩; have hs6 := hs5.drewN nn; have hz6 := hz5.drewN nn; have hy6 := hy5.drewN nn; have hB6 := Go.below_drewN hB5 nn; obtain ⟨w6, hw6⟩ := nm (wr.drewN nn); rw [<- hw6] at hs6 hz6 hy6 hB6 |-; clear hw6 hs5 hz5 hy5 hB5; have c0 := hs6.cellAt 0 _ rfl; have c1 := hs6.cellAt 1 _ rfl; have c2 := hs6.cellAt 2 _ rfl; have c3 := hs6.cellAt 3 _ rfl; have d0 := hy6.cellAt 0 _ rfl; have d1 := hy6.cellAt 1 _ rfl; go_wp2_with (refine wp_new 124 rfl rfl zeroO ?_; refine wp_stop ?_); have hal7 : Below w6.heap.size w6 (w6.alloc (.cells #[.int .i64 0, .int .i64 0, .int .i64 0, .int .i64 0] 124)) := (Below.refl _ _).alloc (Nat.le_refl _) _; have ho7 := Blk.new' w6 124 [.int .i64 0, .int .i64 0, .int .i64 0, .int .i64 0]; have hs7 := hs6.below hal7; have hz7 := hz6.below hal7; have hzl := hz6.lt; have hsl7 := hs6.lt; have hB7 := hB6.trans (hal7.mono hB6.size); clear c0 c1 c2 c3 d0 d1 hs6 hz6 hy6 hal7; refine wp_go ?_; go_wp2_with (refine wp_st 124 (.tmp 14) (.tmp 64) rfl rfl rfl (f := 0) rfl (l := [.int .i64 (K : Int), .int .i64 (Y : Int), .int .i64 a, .int .i64 b]) rfl ho7 (by simp) sizeO (by intro v hv; simp at hv; rcases hv with rfl | rfl | rfl | rfl <;> rfl) ?_; intro w8 ho8 hG8; refine wp_stop ?_); have ho8 : Blk w8 w6.heap.size 124 [.int .i64 (K : Int), .int .i64 (Y : Int), .int .i64 a, .int .i64 b] := ho8; have hs8 := hs7.keep (hG8.block _ hs7.lt (by intro h; injection h with h; omega)); have hz8 := hz7.keep (hG8.block _ hz7.lt (by intro h; injection h with h; omega)); have hB8 := hB7.grown hG8 hB7.size (by intro k hk; injection hk with hk; have := hB6.size; omega); clear ho7 hs7 hz7 hB7 hG8; obtain ⟨g8, hg8⟩ := nm (w6.heap.size); rw [<- hg8] at ho8 |-; clear hg8 hzl hsl7; have c0 := hs8.cellAt 0 _ rfl; have c1 := hs8.cellAt 1 _ rfl; have d0 := ho8.cellAt 0 _ rfl; have d1 := ho8.cellAt 1 _ rfl; have d2 := ho8.cellAt 2 _ rfl; have d3 := ho8.cellAt 3 _ rfl; refine wp_go ?_; go_wp2_with (refine wp_st 126 (.tmp 2) (.tmp 70) rfl rfl rfl (f := 0) rfl (l := [.int .i64 (C : Int), .int .i64 (S : Int), .int .i64 (K : Int), .int .i64 (Y : Int), .int .i64 a, .int .i64 b, .slice none 0 0]) rfl hz8 (by simp [zQ]) sizeQ (by intro v hv; simp at hv; rcases hv with rfl | rfl | rfl | rfl | rfl | rfl | rfl <;> rfl) ?_; intro w9 hd9 hG9; refine wp_stop ?_); refine wp_go ?_; go_wp2; refine ret_cell1 rfl rfl rfl hd9.whole Tryz.underlying126 rfl sizeQ rfl ?_; rw [Ht.out]; exact ⟨rfl, hB8.grown hG9 hB8.size (sk (by omega))⟩
end Go.Proofs.YtnhhbbjkeekneaaGreatDoor
