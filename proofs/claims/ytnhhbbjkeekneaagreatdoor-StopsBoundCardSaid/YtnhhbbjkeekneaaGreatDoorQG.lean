/- QG: layer 7, pure: what any bytes tell as a request, or as a batch; what is said of signatures. No project text. -/
import Derived.Test.YtnhhbbjkeekneaaGreatDoorLW
import Derived.Test.YtnhhbbjkeekneaaGreatDoorN6
import Derived.Test.YtnhhbbjkeekneaaGreatDoorM1
namespace Go.Proofs.YtnhhbbjkeekneaaGreatDoor
open Go.RowKit Go.V
/-- what a request's text tells -/
def txtR (X : List UInt8) : Except Nat Rq := if X.length < 4 then .error 1 else match readPk (X.drop 4) with
  | .error e => .error e
  | .ok (a, za) => match readPk (X.drop (4 + za)) with
    | .error e => .error e
    | .ok (b, zb) => if 4 + za + zb < X.length then .error 2 else .ok ⟨((X.getD 0 0).toNat : Int), ((X.getD 1 0).toNat : Int), ((X.getD 2 0).toNat : Int), ((X.getD 3 0).toNat : Int), unfoldZ a, unfoldZ b, []⟩
/-- what a request's bytes tell -/
def gtR7 (X : List UInt8) : Except Nat Rq := match textR 100 X with
  | .error e => .error e
  | .ok (n, z) => match txtR ((X.drop z).take n) with
    | .error e => .error e
    | .ok r => match textR 1000 (X.drop (z + n)) with
      | .error e => .error e
      | .ok (m, y) => if z + n + (y + m) < X.length then .error 2 else
          if ({ r with g := ((X.drop (z + n)).drop y).take m } : Rq).fm = true then .ok { r with g := ((X.drop (z + n)).drop y).take m } else .error 15
/-- one more of a batch's requests, from k on -/
def oneR (X : List UInt8) (l : List Rq) (k : Nat) : Except Nat (List Rq × Nat) := match textR 2000 (X.drop k) with
  | .error e => .error e
  | .ok (n, z) => match gtR7 (((X.drop k).drop z).take n) with
    | .error e => .error e
    | .ok r => .ok (l ++ [r], k + (z + n))
/-- the first i of them, and where they end -/
def itR (X : List UInt8) (z : Nat) : Nat → Except Nat (List Rq × Nat)
  | 0 => .ok ([], z)
  | i + 1 => match itR X z i with
    | .error e => .error e
    | .ok (l, k) => oneR X l k
/-- what a batch's bytes tell -/
def gbR7 (X : List UInt8) : Except Nat (List Rq) := match cntR 4 (readPk X) with
  | .error e => .error e
  | .ok (c, z) => match itR X z c with
    | .error e => .error e
    | .ok (l, k) => if k < X.length then .error 2 else if fmB l = true then .ok l else .error 15
theorem it_err {X : List UInt8} {z i : Nat} {e : Nat} (h : itR X z i = .error e) : ∀ c, i ≤ c → itR X z c = .error e := by
  intro c hc
  induction hc with
  | refl => exact h
  | step _ ih => rw [itR, ih]
theorem it_next {X : List UInt8} {z i k : Nat} {l : List Rq} (h : itR X z i = .ok (l, k)) : itR X z (i + 1) = oneR X l k := by rw [itR, h]
theorem it_len {X : List UInt8} {z : Nat} : ∀ {i k : Nat} {l : List Rq}, itR X z i = .ok (l, k) → l.length = i
  | 0, k, l, h => by rw [itR] at h; injection h with h; injection h with h _; subst h; rfl
  | i + 1, k, l, h => by
    rw [itR] at h
    split at h
    · cases h
    · rename_i l0 k0 h0
      have := it_len h0
      unfold oneR at h
      split at h
      · cases h
      · split at h
        · cases h
        · injection h with h
          injection h with h _
          subst h
          rw [List.length_append, this]
          rfl
/-- what is said of a request's signature: a client's roots -/
def chkR (R : List (List UInt8)) (vE vN : List UInt8 → List UInt8 → List UInt8 → Int) (r : Rq) : Int :=
  if r.fm = false then 15 else match R[r.c.toNat]? with
  | none => 6
  | some root => if vE root r.text r.g ≠ 0 then vE root r.text r.g else if vN root r.text r.g ≠ r.s - 1 then 5 else 0
/-- a digest of 32 bytes -/
def Hx : Type := { h : List UInt8 // h.length = 32 }
def hxD : WD Hx 32 := ⟨fun x => (bvs x.1).map Dat.atom, fun x => by rw [List.length_map, len_bvs]; exact x.2, by omega⟩
theorem hx_open {w : World} {F : Nat → Prop} {x : Hx} {cs : List Value} (h : WdEl w F hxD x cs) : cs = bvs x.1 := by
  have hl := h.len
  refine List.ext_getElem? (fun j => ?_)
  rcases Nat.lt_or_ge j 32 with hj | hj
  · have hb : j < (bvs x.1).length := by rw [len_bvs, x.2]; exact hj
    rw [List.getElem?_eq_getElem (by omega), List.getElem?_eq_getElem hb]
    have hd : (hxD.dat x)[j]? = some (Dat.atom (bvs x.1)[j]) := by
      show ((bvs x.1).map Dat.atom)[j]? = _
      rw [List.getElem?_map, List.getElem?_eq_getElem hb]
      rfl
    have := h.at_ j cs[j] _ (List.getElem?_eq_getElem (by omega)) hd
    unfold Rd at this
    rw [this]
  · rw [List.getElem?_eq_none (by omega), List.getElem?_eq_none (by rw [len_bvs, x.2]; exact hj)]
theorem hx_mk {w : World} {F : Nat → Prop} {x : Hx} : WdEl w F hxD x (bvs x.1) := ⟨by rw [len_bvs]; exact x.2, fun j v d hv hd => by
  have hd : ((bvs x.1).map Dat.atom)[j]? = some d := hd
  rw [List.getElem?_map, hv] at hd
  simp at hd
  subst hd
  unfold Rd
  rfl⟩
/-- A and B as they are read, one behind the other: where they end, and both -/
def stR (X : List UInt8) : Nat → Except Nat (Nat × List Int)
  | 0 => .ok (4, [0, 0])
  | i + 1 => match stR X i with
    | .error e => .error e
    | .ok (m, l) => match readPk (X.drop m) with
      | .error e => .error e
      | .ok (c, z) => .ok (m + z, l.set i (unfoldZ c))
theorem st_err {X : List UInt8} {i e : Nat} (h : stR X i = .error e) : ∀ c, i ≤ c → stR X c = .error e := by
  intro c hc
  induction hc with
  | refl => exact h
  | step _ ih => rw [stR, ih]
theorem st_len {X : List UInt8} : ∀ {i m : Nat} {l : List Int}, stR X i = .ok (m, l) → l.length = 2
  | 0, m, l, h => by rw [stR] at h; injection h with h; injection h with _ h; subst h; rfl
  | i + 1, m, l, h => by
    rw [stR] at h
    split at h
    · cases h
    · rename_i m0 l0 h0
      split at h
      · cases h
      · injection h with h
        injection h with _ h
        subst h
        rw [List.length_set]
        exact st_len h0
def rqX (X : List UInt8) (a b : Int) : Rq := ⟨((X.getD 0 0).toNat : Int), ((X.getD 1 0).toNat : Int), ((X.getD 2 0).toNat : Int), ((X.getD 3 0).toNat : Int), a, b, []⟩
theorem txt_st (X : List UInt8) : txtR X = if X.length < 4 then .error 1 else match stR X 2 with
    | .error e => .error e
    | .ok (m, l) => if m < X.length then .error 2 else .ok (rqX X (l.getD 0 0) (l.getD 1 0)) := by
  unfold txtR
  by_cases h4 : X.length < 4
  · rw [if_pos h4, if_pos h4]
  · rw [if_neg h4, if_neg h4]
    have e0 : stR X 0 = .ok (4, [0, 0]) := rfl
    cases h0 : readPk (X.drop 4) with
    | error e =>
      have e1 : stR X 1 = .error e := by rw [stR, e0]; show (match readPk (X.drop 4) with | .error e => Except.error e | .ok (c, z) => .ok (4 + z, [0, 0].set 0 (unfoldZ c))) = _; rw [h0]
      have e2 : stR X 2 = .error e := st_err e1 2 (by omega)
      rw [e2]
    | ok r =>
      obtain ⟨a, za⟩ := r
      have e1 : stR X 1 = .ok (4 + za, [unfoldZ a, 0]) := by rw [stR, e0]; show (match readPk (X.drop 4) with | .error e => Except.error e | .ok (c, z) => .ok (4 + z, [0, 0].set 0 (unfoldZ c))) = _; rw [h0]; rfl
      dsimp only
      cases h1 : readPk (X.drop (4 + za)) with
      | error e =>
        have e2 : stR X 2 = .error e := by rw [stR, e1]; show (match readPk (X.drop (4 + za)) with | .error e => Except.error e | .ok (c, z) => .ok (4 + za + z, [unfoldZ a, 0].set 1 (unfoldZ c))) = _; rw [h1]
        rw [e2]
      | ok r =>
        obtain ⟨b, zb⟩ := r
        have e2 : stR X 2 = .ok (4 + za + zb, [unfoldZ a, unfoldZ b]) := by rw [stR, e1]; show (match readPk (X.drop (4 + za)) with | .error e => Except.error e | .ok (c, z) => .ok (4 + za + z, [unfoldZ a, 0].set 1 (unfoldZ c))) = _; rw [h1]; rfl
        rw [e2]
        rfl
end Go.Proofs.YtnhhbbjkeekneaaGreatDoor
