/- YC: several texts in one. -/
import Derived.Test.YtkoncjcnpconkaaY0
import Derived.Test.YtkoncjcnpconkaaVE
import Derived.Test.YtkoncjcnpconkaaN8
/- YC: layer 8: contracts of wire: fields, Size, formed. -/
namespace Go.V
open Go.RowKit
def fsz (i : Nat) : Nat := if i < 2 then 1 else 2
def flo (i : Nat) : Nat := if i = 0 then 1 else 0
def fhi (i : Nat) : Nat := if i = 0 then 12 else if i = 1 then 15 else if i = 3 then 40 else 60
def fE (g i : Nat) : List Value := [.pointer (some ⟨g, i, none⟩), .int .i64 (fsz i : Int), .int .i64 (flo i : Int), .int .i64 (fhi i : Int)]
def fV (g : Nat) : List Value := fE g 0 ++ fE g 1 ++ fE g 2 ++ fE g 3 ++ fE g 4
theorem fV_at (g i : Nat) (h : i < 5) : ((fV g).drop (i * 4)).take 4 = fE g i := by
  match i, h with
  | 0, _ => rfl
  | 1, _ => rfl
  | 2, _ => rfl
  | 3, _ => rfl
  | 4, _ => rfl
def soff (i : Nat) : Nat := if i ≤ 2 then i else 2 * i - 2
theorem soff_succ (i : Nat) (h : i < 5) : soff (i + 1) = soff i + fsz i := by
  unfold soff fsz
  repeat' split
  all_goals omega
structure MgSm (m : Mg) : Prop where
  b : m.b.length ≤ 1000000
  p : m.ps.length ≤ 1000
  t : ∀ t ∈ m.ps, t.length ≤ 1000000
theorem len_partsG : ∀ (ps : List (List UInt8)), (∀ t ∈ ps, t.length ≤ 1000000) → (ps.flatMap tb1).length ≤ 1000010 * ps.length
  | [], _ => by simp
  | t :: ps, h => by
    rw [List.flatMap_cons, List.length_append, List.length_cons]
    have h1 : (tb1 t).length ≤ 1000010 := by
      have := psz_bd t.length
      have := h t (by simp)
      unfold tb1
      rw [List.length_append, length_packed]
      omega
    have h2 := len_partsG ps (fun x hx => h x (by simp [hx]))
    omega
theorem one_fE (g i : Nat) : ∀ v ∈ fE g i, v.oneCell' = true := by
  intro v hv
  simp only [fE, List.mem_cons, List.not_mem_nil, or_false] at hv
  rcases hv with rfl | rfl | rfl | rfl <;> rfl
theorem one_fV (g : Nat) : ∀ v ∈ fV g, v.oneCell' = true := by
  intro v hv
  simp only [fV, List.mem_append] at hv
  rcases hv with (((hv | hv) | hv) | hv) | hv <;> exact one_fE _ _ v hv
theorem len_fV (g : Nat) : (fV g).length = 20 := rfl
theorem y_bld {P : Program} {ops : Array Oper} {S : World → Prop} {o : Oper} {a : Act} (hw : Region.wanted o (yielded ops a.tmps) = true) (t : TypeId) (parts : List (Nat × Operand)) (ho : o.op = .build t parts.toArray) (vs : List (Nat × Value)) (hp : (parts.map fun x => (x.1, a.eval x.2)) = vs) {cells : Array Value} (hr : ∀ W : World, (Instr.build t vs.toArray).run P W = .ok (.agg cells) W) : YieldsIf P ops S o (.agg cells) a := by
  refine .inl ⟨hw, fun w _ => ?_⟩
  have e : (parts.toArray.map fun (i, x) => (i, a.eval x)) = vs.toArray := by rw [List.map_toArray, ← hp]
  unfold execOp
  simp only [ho, e, Sem.run_bind, Sem.run_pure, hr, Result.andThen_ok]
end Go.V
namespace Go.Proofs.Ytkoncjcnpconkaa
open Go.RowKit Go.V
theorem len_by2 {m : Mg} (hh : m.h.length = 32) : (Mg.by m).length = 40 + (psz m.b.length + m.b.length) + psz m.ps.length + (m.ps.flatMap tb1).length := by
  unfold Mg.by
  simp only [List.length_append, len_hd hh, length_packed]
def zF : List Value := [.pointer none, .int .i64 0, .int .i64 0, .int .i64 0]
def zFs : List Value := zF ++ zF ++ zF ++ zF ++ zF
end Go.Proofs.Ytkoncjcnpconkaa
/- YD: layer 8: what a reader of messages says, as a list function. -/
namespace Go.Proofs.Ytkoncjcnpconkaa
open Go.RowKit Go.V
def szs8 : List Nat := [1, 1, 2, 2, 2] ++ List.replicate 32 1
/-- fixed numbers, one behind the other, from k on -/
def fldR : List Nat → Nat → List UInt8 → Except Nat (List Nat)
  | [], _, _ => .ok []
  | n :: ns, k, X => match fixRd (n : Int) (X.drop k) with
    | .error e => .error e
    | .ok x => match fldR ns (k + n) X with
      | .error e => .error e
      | .ok xs => .ok (x :: xs)
/-- c texts, one behind the other, from k on; where they end -/
def prtR : Nat → Nat → List UInt8 → Except Nat (List (List UInt8) × Nat)
  | 0, k, _ => .ok ([], k)
  | c + 1, k, X => match textR 65536 (X.drop k) with
    | .error e => .error e
    | .ok (n, z) => match prtR c (k + (z + n)) X with
      | .error e => .error e
      | .ok (ts, k') => .ok (((X.drop k).drop z).take n :: ts, k')
def mkM (xs : List Nat) (b : List UInt8) (ps : List (List UInt8)) : Mg :=
  ⟨(xs.getD 0 0 : Nat), (xs.getD 1 0 : Nat), (xs.getD 2 0 : Nat), (xs.getD 3 0 : Nat), (xs.getD 4 0 : Nat), (xs.drop 5).map UInt8.ofNat, b, ps⟩
/-- the message that X tells, or the error that is met first -/
def rdM (X : List UInt8) : Except Nat Mg := match fldR szs8 0 X with
  | .error e => .error e
  | .ok xs => match textR 65536 (X.drop 40) with
    | .error e => .error e
    | .ok (n, z) => match cntR 16 (readPk (X.drop (40 + (z + n)))) with
      | .error e => .error e
      | .ok (c, y) => match prtR c (40 + (z + n) + y) X with
        | .error e => .error e
        | .ok (ts, k) => if k < X.length then .error 2 else if numB (mkM xs (((X.drop 40).drop z).take n) ts) = true then .ok (mkM xs (((X.drop 40).drop z).take n) ts) else .error 15
theorem fldR_snoc : ∀ (a : List Nat) (n k : Nat) (X : List UInt8) (xs : List Nat) (x : Nat), fldR a k X = .ok xs → fixRd (n : Int) (X.drop (k + a.sum)) = .ok x → fldR (a ++ [n]) k X = .ok (xs ++ [x])
  | [], n, k, X, xs, x, h, h2 => by
    simp only [fldR, Except.ok.injEq] at h
    subst h
    simp only [List.sum_nil, Nat.add_zero] at h2
    simp only [List.nil_append, fldR, h2]
  | m :: a, n, k, X, xs, x, h, h2 => by
    simp only [fldR] at h
    simp only [List.cons_append, fldR]
    cases h3 : fixRd (m : Int) (X.drop k) with
    | error e => rw [h3] at h; cases h
    | ok y =>
      rw [h3] at h
      dsimp only at h ⊢
      cases h4 : fldR a (k + m) X with
      | error e => rw [h4] at h; cases h
      | ok ys =>
        rw [h4] at h
        dsimp only at h
        injection h with h
        subst h
        rw [fldR_snoc a n (k + m) X ys x h4 (by rw [List.sum_cons, ← Nat.add_assoc] at h2; exact h2)]
        rfl
theorem fldR_err : ∀ (a b : List Nat) (n k : Nat) (X : List UInt8) (xs : List Nat) (e : Nat), fldR a k X = .ok xs → fixRd (n : Int) (X.drop (k + a.sum)) = .error e → fldR (a ++ n :: b) k X = .error e
  | [], b, n, k, X, xs, e, h, h2 => by
    simp only [List.sum_nil, Nat.add_zero] at h2
    simp only [List.nil_append, fldR, h2]
  | m :: a, b, n, k, X, xs, e, h, h2 => by
    simp only [fldR] at h
    simp only [List.cons_append, fldR]
    cases h3 : fixRd (m : Int) (X.drop k) with
    | error e => rw [h3] at h; cases h
    | ok y =>
      rw [h3] at h
      dsimp only at h ⊢
      cases h4 : fldR a (k + m) X with
      | error e => rw [h4] at h; cases h
      | ok ys => rw [fldR_err a b n (k + m) X ys e h4 (by rw [List.sum_cons, ← Nat.add_assoc] at h2; exact h2)]
theorem prtR_snoc : ∀ (c k : Nat) (X : List UInt8) (ts : List (List UInt8)) (k' n z : Nat), prtR c k X = .ok (ts, k') → textR 65536 (X.drop k') = .ok (n, z) → prtR (c + 1) k X = .ok (ts ++ [((X.drop k').drop z).take n], k' + (z + n))
  | 0, k, X, ts, k', n, z, h, h2 => by
    simp only [prtR, Except.ok.injEq, Prod.mk.injEq] at h
    obtain ⟨rfl, rfl⟩ := h
    simp only [prtR, h2, List.nil_append]
  | c + 1, k, X, ts, k', n, z, h, h2 => by
    rw [prtR] at h ⊢
    cases h3 : textR 65536 (X.drop k) with
    | error e => rw [h3] at h; cases h
    | ok r =>
      obtain ⟨n1, z1⟩ := r
      rw [h3] at h
      dsimp only at h ⊢
      cases h4 : prtR c (k + (z1 + n1)) X with
      | error e => rw [h4] at h; cases h
      | ok r2 =>
        obtain ⟨ts2, k2⟩ := r2
        rw [h4] at h
        dsimp only at h
        injection h with h
        injection h with h5 h6
        subst h5; subst h6
        rw [prtR_snoc c _ X ts2 k2 n z h4 h2]
        rfl
theorem prtR_err : ∀ (c d k : Nat) (X : List UInt8) (ts : List (List UInt8)) (k' e : Nat), prtR c k X = .ok (ts, k') → textR 65536 (X.drop k') = .error e → prtR (c + (d + 1)) k X = .error e
  | 0, d, k, X, ts, k', e, h, h2 => by
    simp only [prtR, Except.ok.injEq, Prod.mk.injEq] at h
    obtain ⟨rfl, rfl⟩ := h
    rw [Nat.zero_add, prtR, h2]
  | c + 1, d, k, X, ts, k', e, h, h2 => by
    rw [show c + 1 + (d + 1) = (c + (d + 1)) + 1 from by omega]
    rw [prtR] at h ⊢
    cases h3 : textR 65536 (X.drop k) with
    | error e => rw [h3] at h; cases h
    | ok r =>
      obtain ⟨n1, z1⟩ := r
      rw [h3] at h
      dsimp only at h ⊢
      cases h4 : prtR c (k + (z1 + n1)) X with
      | error e => rw [h4] at h; cases h
      | ok r2 =>
        obtain ⟨ts2, k2⟩ := r2
        rw [h4] at h
        dsimp only at h
        injection h with h
        injection h with _ h6
        subst h6
        rw [prtR_err c d _ X ts2 k2 e h4 h2]
theorem prtR_len : ∀ (c k : Nat) (X : List UInt8) (ts : List (List UInt8)) (k' : Nat), prtR c k X = .ok (ts, k') → ts.length = c
  | 0, k, X, ts, k', h => by
    simp only [prtR, Except.ok.injEq, Prod.mk.injEq] at h
    rw [← h.1]; rfl
  | c + 1, k, X, ts, k', h => by
    rw [prtR] at h
    cases h3 : textR 65536 (X.drop k) with
    | error e => rw [h3] at h; cases h
    | ok r =>
      obtain ⟨n1, z1⟩ := r
      rw [h3] at h
      dsimp only at h
      cases h4 : prtR c (k + (z1 + n1)) X with
      | error e => rw [h4] at h; cases h
      | ok r2 =>
        obtain ⟨ts2, k2⟩ := r2
        rw [h4] at h
        dsimp only at h
        injection h with h
        injection h with h5 h6
        rw [← h5, List.length_cons, prtR_len c _ X ts2 k2 h4]
theorem fldR_len : ∀ (a : List Nat) (k : Nat) (X : List UInt8) (xs : List Nat), fldR a k X = .ok xs → xs.length = a.length
  | [], k, X, xs, h => by simp only [fldR, Except.ok.injEq] at h; rw [← h]
  | m :: a, k, X, xs, h => by
    simp only [fldR] at h
    cases h3 : fixRd (m : Int) (X.drop k) with
    | error e => rw [h3] at h; cases h
    | ok y =>
      rw [h3] at h
      dsimp only at h
      cases h4 : fldR a (k + m) X with
      | error e => rw [h4] at h; cases h
      | ok ys =>
        rw [h4] at h
        dsimp only at h
        injection h with h
        rw [← h, List.length_cons, fldR_len a _ X ys h4, List.length_cons]
theorem fixRd_ok {n : Nat} {l : List UInt8} {x : Nat} (ho : okN (n : Int)) (h : fixRd (n : Int) l = .ok x) : n ≤ l.length ∧ x = fixN (l.take n) ∧ x < 256 ^ n := by
  unfold fixRd at h
  rw [if_pos ho, Int.toNat_natCast] at h
  split at h
  · cases h
  · rename_i hl
    injection h with h
    subst h
    refine ⟨by omega, rfl, ?_⟩
    have := fixN_lt (l.take n)
    rwa [List.length_take, Nat.min_eq_left (by omega)] at this
theorem fixRd_err {n : Nat} {l : List UInt8} {e : Nat} (ho : okN (n : Int)) (h : fixRd (n : Int) l = .error e) : e = 1 := by
  unfold fixRd at h
  rw [if_pos ho] at h
  split at h
  · injection h with h; omega
  · cases h
theorem textR_err {most : Int} {l : List UInt8} {e : Nat} (h : textR most l = .error e) : e = 1 ∨ e = 2 ∨ e = 3 := by
  unfold textR at h
  cases hc : cntR most (readPk l) with
  | error e' => rw [hc] at h; dsimp only at h; injection h with h; subst h; exact cntR_err hc
  | ok r =>
    obtain ⟨n, z⟩ := r
    rw [hc] at h
    dsimp only at h
    split at h
    · injection h with h; omega
    · cases h
theorem textR_ok {most : Int} {l : List UInt8} {n z : Nat} (h : textR most l = .ok (n, z)) : z + n ≤ l.length ∧ (n : Int) ≤ most := by
  unfold textR at h
  cases hc : cntR most (readPk l) with
  | error e' => rw [hc] at h; cases h
  | ok r =>
    obtain ⟨n', z'⟩ := r
    rw [hc] at h
    dsimp only at h
    split at h
    · cases h
    · injection h with h
      injection h with h1 h2
      subst h1; subst h2
      exact ⟨by omega, (cntR_ok hc).2.2⟩
/-! what was put, whole or cut off -/
/-- pieces that are put and read: fixed numbers -/
def putN : List (Nat × Nat) → List UInt8
  | [] => []
  | (n, x) :: l => fixR (n : Int) x ++ putN l
theorem fix_len (n x : Nat) (ho : okN (n : Int)) : (fixR (n : Int) x).length = n := by
  unfold fixR
  rw [if_pos ho, Int.toNat_natCast]
  simp [fixB]
theorem putN_len : ∀ (l : List (Nat × Nat)) (_ : ∀ p ∈ l, okN (p.1 : Int)), (putN l).length = (l.map (·.1)).sum
  | [], _ => rfl
  | (n, x) :: l, h => by
    rw [putN, List.length_append, fix_len n x (h (n, x) (by simp)), putN_len l (fun p hp => h p (by simp [hp]))]
    simp
theorem fldR_put : ∀ (l : List (Nat × Nat)) (_ : ∀ p ∈ l, okN (p.1 : Int) ∧ p.2 < 256 ^ p.1) (k : Nat) (X R : List UInt8) (_ : X.drop k = putN l ++ R), fldR (l.map (·.1)) k X = .ok (l.map (·.2))
  | [], _, k, X, R, _ => rfl
  | (n, x) :: l, h, k, X, R, hX => by
    obtain ⟨ho, hx⟩ := h (n, x) (by simp)
    rw [List.map_cons, fldR, hX, putN, List.append_assoc, fixRd_of n x _ ho hx]
    dsimp only
    rw [fldR_put l (fun p hp => h p (by simp [hp])) (k + n) X R (by rw [← List.drop_drop, hX, putN, List.append_assoc]; exact List.drop_left' (fix_len n x ho))]
    rfl
theorem fldR_cut : ∀ (l : List (Nat × Nat)) (_ : ∀ p ∈ l, okN (p.1 : Int) ∧ p.2 < 256 ^ p.1) (k j : Nat) (X R : List UInt8) (_ : X.drop k = (putN l ++ R).take j) (_ : j < (l.map (·.1)).sum), fldR (l.map (·.1)) k X = .error 1
  | [], _, k, j, X, R, _, hj => by simp at hj
  | (n, x) :: l, h, k, j, X, R, hX, hj => by
    obtain ⟨ho, hx⟩ := h (n, x) (by simp)
    have hl := fix_len n x ho
    rw [List.map_cons, fldR, hX]
    rcases Nat.lt_or_ge j n with h1 | h1
    · rw [fixRd_short n _ ho (by rw [List.length_take]; omega)]
    · have e : (putN ((n, x) :: l) ++ R).take j = fixR (n : Int) x ++ (putN l ++ R).take (j - n) := by
        rw [putN, List.append_assoc, List.take_append, List.take_of_length_le (by omega), hl]
      rw [e, fixRd_of n x _ ho hx]
      dsimp only
      rw [fldR_cut l (fun p hp => h p (by simp [hp])) (k + n) (j - n) X R (by rw [← List.drop_drop, hX, e]; exact List.drop_left' hl) (by simp at hj; omega)]
theorem prtR_put : ∀ (ps : List (List UInt8)) (_ : ∀ t ∈ ps, t.length ≤ 65536) (k : Nat) (X R : List UInt8) (_ : X.drop k = ps.flatMap tb1 ++ R), prtR ps.length k X = .ok (ps, k + (ps.flatMap tb1).length)
  | [], _, k, X, R, _ => by simp [prtR]
  | t :: ps, h, k, X, R, hX => by
    have ht := h t (by simp)
    have e : X.drop k = (packed t.length ++ t) ++ (ps.flatMap tb1 ++ R) := by rw [hX, List.flatMap_cons, tb1, List.append_assoc]
    have hd : X.drop (k + (psz t.length + t.length)) = ps.flatMap tb1 ++ R := by
      rw [← List.drop_drop, e]
      exact List.drop_left' (by rw [List.length_append, length_packed])
    have ht2 : ((X.drop k).drop (psz t.length)).take t.length = t := by
      rw [e, List.append_assoc, ← length_packed, List.drop_left, List.take_left]
    rw [List.length_cons, prtR, show textR 65536 (X.drop k) = .ok (t.length, psz t.length) from by rw [e]; exact textR_of 65536 t _ (by omega) (by omega)]
    dsimp only
    rw [ht2]
    rw [prtR_put ps (fun x hx => h x (by simp [hx])) _ X R hd]
    dsimp only
    rw [List.flatMap_cons, List.length_append, tb1, List.length_append, length_packed]
    congr 2
    omega
theorem prtR_cut : ∀ (ps : List (List UInt8)) (_ : ∀ t ∈ ps, t.length ≤ 65536) (k j : Nat) (X R : List UInt8) (_ : X.drop k = (ps.flatMap tb1 ++ R).take j) (_ : j < (ps.flatMap tb1).length), prtR ps.length k X = .error 1
  | [], _, k, j, X, R, _, hj => by simp at hj
  | t :: ps, h, k, j, X, R, hX, hj => by
    have ht := h t (by simp)
    have e : X.drop k = ((packed t.length ++ t) ++ (ps.flatMap tb1 ++ R)).take j := by rw [hX, List.flatMap_cons, tb1, List.append_assoc]
    rw [List.flatMap_cons, List.length_append, tb1, List.length_append, length_packed] at hj
    rw [List.length_cons, prtR]
    rcases Nat.lt_or_ge j (psz t.length + t.length) with h1 | h1
    · rw [e, textR_cut 65536 t _ j (by omega) (by omega) h1]
    · have e2 : X.drop k = (packed t.length ++ t) ++ (ps.flatMap tb1 ++ R).take (j - (psz t.length + t.length)) := by
        rw [e, List.take_append, List.take_of_length_le (by rw [List.length_append, length_packed]; omega), List.length_append, length_packed]
      have hd : X.drop (k + (psz t.length + t.length)) = (ps.flatMap tb1 ++ R).take (j - (psz t.length + t.length)) := by
        rw [← List.drop_drop, e2]
        exact List.drop_left' (by rw [List.length_append, length_packed])
      rw [show textR 65536 (X.drop k) = .ok (t.length, psz t.length) from by rw [e2]; exact textR_of 65536 t _ (by omega) (by omega)]
      dsimp only
      rw [prtR_cut ps (fun x hx => h x (by simp [hx])) _ (j - (psz t.length + t.length)) X R hd (by omega)]
/-- a message's head, as numbers -/
def hdN (m : Mg) : List (Nat × Nat) := [(1, un m.k), (1, un m.f), (2, un m.v), (2, un m.r), (2, un m.s)] ++ m.h.map (fun c => (1, c.toNat))
theorem fix1 (c : UInt8) : fixR (1 : Int) c.toNat = [c] := by
  unfold fixR
  rw [if_pos (by unfold okN; omega)]
  simp [fixB, Nat.mod_eq_of_lt c.toNat_lt]
theorem putN_bytes : ∀ (h : List UInt8), putN (h.map (fun c => (1, c.toNat))) = h
  | [] => rfl
  | c :: h => by
    rw [List.map_cons, putN, putN_bytes h]
    rw [show ((1 : Nat) : Int) = (1 : Int) from rfl, fix1]
    rfl
theorem putN_hd (m : Mg) : putN (hdN m) = Mg.hd m := by
  unfold hdN Mg.hd
  rw [List.cons_append, putN, List.cons_append, putN, List.cons_append, putN, List.cons_append, putN, List.cons_append, putN, List.nil_append, putN_bytes]
  simp only [List.append_assoc]
  rfl
theorem hdN_szs {m : Mg} (hh : m.h.length = 32) : (hdN m).map (·.1) = szs8 := by
  unfold hdN szs8
  rw [List.map_append, List.map_map]
  congr 1
  rw [← hh]
  exact List.map_const'
theorem sum_szs8 : szs8.sum = 40 := by decide
structure NumIn (m : Mg) : Prop where
  k : 0 ≤ m.k ∧ m.k ≤ 255
  f : 0 ≤ m.f ∧ m.f ≤ 255
  v : 0 ≤ m.v ∧ m.v ≤ 65535
  r : 0 ≤ m.r ∧ m.r ≤ 65535
  s : 0 ≤ m.s ∧ m.s ≤ 65535
theorem numB_in {m : Mg} (h : numB m = true) : NumIn m := by
  unfold numB at h
  have := of_decide_eq_true h
  exact ⟨by omega, by omega, by omega, by omega, by omega⟩
theorem hdN_ok {m : Mg} (h : NumIn m) : ∀ p ∈ hdN m, okN (p.1 : Int) ∧ p.2 < 256 ^ p.1 := by
  intro p hp
  unfold hdN at hp
  simp only [List.cons_append, List.nil_append, List.mem_cons, List.mem_map] at hp
  obtain ⟨h1, h2, h3, h4, h5⟩ := h
  rcases hp with rfl | rfl | rfl | rfl | rfl | ⟨c, _, rfl⟩
  · exact ⟨by unfold okN; omega, by unfold un; show _ < 256 ^ 1; omega⟩
  · exact ⟨by unfold okN; omega, by unfold un; show _ < 256 ^ 1; omega⟩
  · exact ⟨by unfold okN; omega, by unfold un; show _ < 256 ^ 2; omega⟩
  · exact ⟨by unfold okN; omega, by unfold un; show _ < 256 ^ 2; omega⟩
  · exact ⟨by unfold okN; omega, by unfold un; show _ < 256 ^ 2; omega⟩
  · exact ⟨by unfold okN; omega, by have := c.toNat_lt; show _ < 256 ^ 1; omega⟩
theorem mkM_hd {m : Mg} (h : NumIn m) (b : List UInt8) (ps : List (List UInt8)) : mkM ((hdN m).map (·.2)) b ps = ⟨m.k, m.f, m.v, m.r, m.s, m.h, b, ps⟩ := by
  obtain ⟨h1, h2, h3, h4, h5⟩ := h
  unfold mkM hdN
  have e : ∀ x : Int, 0 ≤ x ∧ x ≤ 65535 → (un x : Int) = x := fun x hx => by unfold un; omega
  simp only [List.cons_append, List.nil_append, List.map_cons, List.map_map, List.getD_cons_zero, List.getD_cons_succ, List.drop_succ_cons, List.drop_zero]
  rw [e m.k (by omega), e m.f (by omega), e m.v (by omega), e m.r (by omega), e m.s (by omega)]
  congr 1
  have : (UInt8.ofNat ∘ (fun x : Nat × Nat => x.2) ∘ fun c : UInt8 => (1, c.toNat)) = id := by funext c; simp
  rw [this, List.map_id]
/-- the pieces of a message's bytes, whatever is behind them -/
theorem rdM_put {m : Mg} (hh : m.h.length = 32) (hn : numB m = true) (hb : m.b.length ≤ 65536) (hp : m.ps.length ≤ 16) (hps : ∀ t ∈ m.ps, t.length ≤ 65536) (R : List UInt8) :
    rdM (Mg.by m ++ R) = if R = [] then .ok m else .error 2 := by
  have hi := numB_in hn
  obtain ⟨X, hX⟩ : ∃ X, X = Mg.by m ++ R := ⟨_, rfl⟩
  rw [← hX]
  have e0 : X = putN (hdN m) ++ ((packed m.b.length ++ m.b) ++ (packed m.ps.length ++ (m.ps.flatMap tb1 ++ R))) := by
    rw [hX, putN_hd]; unfold Mg.by; simp only [List.append_assoc]
  have hl0 : (putN (hdN m)).length = 40 := by rw [putN_hd, len_hd hh]
  have e1 : X.drop 40 = (packed m.b.length ++ m.b) ++ (packed m.ps.length ++ (m.ps.flatMap tb1 ++ R)) := by rw [e0]; exact List.drop_left' hl0
  have e2 : X.drop (40 + (psz m.b.length + m.b.length)) = packed m.ps.length ++ (m.ps.flatMap tb1 ++ R) := by
    rw [← List.drop_drop, e1]; exact List.drop_left' (by rw [List.length_append, length_packed])
  have e3 : X.drop (40 + (psz m.b.length + m.b.length) + psz m.ps.length) = m.ps.flatMap tb1 ++ R := by
    rw [← List.drop_drop, e2]; exact List.drop_left' (by rw [length_packed])
  have f0 : fldR szs8 0 X = .ok ((hdN m).map (·.2)) := by
    rw [← hdN_szs hh]; exact fldR_put (hdN m) (hdN_ok hi) 0 X _ (by rw [List.drop_zero]; exact e0)
  have f1 : textR 65536 (X.drop 40) = .ok (m.b.length, psz m.b.length) := by rw [e1]; exact textR_of 65536 m.b _ (by omega) (by omega)
  have f1' : ((X.drop 40).drop (psz m.b.length)).take m.b.length = m.b := by rw [e1, List.append_assoc, ← length_packed, List.drop_left, List.take_left]
  have f2 : cntR 16 (readPk (X.drop (40 + (psz m.b.length + m.b.length)))) = .ok (m.ps.length, psz m.ps.length) := by rw [e2]; exact cntR_of 16 _ _ (by omega) (by omega)
  have f3 := prtR_put m.ps hps _ X R e3
  have hXl : X.length = 40 + (psz m.b.length + m.b.length) + psz m.ps.length + (m.ps.flatMap tb1).length + R.length := by
    rw [e0]; simp only [List.length_append, hl0, length_packed]; omega
  unfold rdM
  rw [f0]
  dsimp only
  rw [f1]
  dsimp only
  rw [f2]
  dsimp only
  rw [f3]
  dsimp only
  rw [f1', mkM_hd hi]
  by_cases hR : R = []
  · subst hR
    rw [if_neg (by rw [hXl]; simp), if_pos rfl]
    exact if_pos hn
  · have : 0 < R.length := List.length_pos_iff.2 hR
    rw [if_pos (by omega), if_neg hR]
theorem rdM_cut {m : Mg} (hh : m.h.length = 32) (hn : numB m = true) (hb : m.b.length ≤ 65536) (hp : m.ps.length ≤ 16) (hps : ∀ t ∈ m.ps, t.length ≤ 65536) (j : Nat) (hj : j < (Mg.by m).length) :
    rdM ((Mg.by m).take j) = .error 1 := by
  have hi := numB_in hn
  obtain ⟨X, hX⟩ : ∃ X, X = (Mg.by m).take j := ⟨_, rfl⟩
  rw [← hX]
  have hl0 : (putN (hdN m)).length = 40 := by rw [putN_hd, len_hd hh]
  have hby : Mg.by m = putN (hdN m) ++ ((packed m.b.length ++ m.b) ++ (packed m.ps.length ++ (m.ps.flatMap tb1 ++ []))) := by
    rw [putN_hd]; unfold Mg.by; simp only [List.append_assoc, List.append_nil]
  have hbl : (Mg.by m).length = 40 + (psz m.b.length + m.b.length) + psz m.ps.length + (m.ps.flatMap tb1).length := by
    rw [hby]; simp only [List.length_append, hl0, length_packed, List.length_nil]; omega
  rw [hby] at hX
  rw [hbl] at hj
  clear hby hbl
  unfold rdM
  rcases Nat.lt_or_ge j 40 with h1 | h1
  · have f0 : fldR szs8 0 X = .error 1 := by
      rw [← hdN_szs hh]
      exact fldR_cut (hdN m) (hdN_ok hi) 0 j X _ (by rw [List.drop_zero]; exact hX) (by rw [hdN_szs hh, sum_szs8]; exact h1)
    rw [f0]
  have e0 : X = putN (hdN m) ++ ((packed m.b.length ++ m.b) ++ (packed m.ps.length ++ (m.ps.flatMap tb1 ++ []))).take (j - 40) := by
    rw [hX, List.take_append, List.take_of_length_le (by omega), hl0]
  have f0 : fldR szs8 0 X = .ok ((hdN m).map (·.2)) := by
    rw [← hdN_szs hh]; exact fldR_put (hdN m) (hdN_ok hi) 0 X _ (by rw [List.drop_zero]; exact e0)
  have e1 : X.drop 40 = ((packed m.b.length ++ m.b) ++ (packed m.ps.length ++ (m.ps.flatMap tb1 ++ []))).take (j - 40) := by rw [e0]; exact List.drop_left' hl0
  rw [f0]
  dsimp only
  clear f0 e0 hX
  rcases Nat.lt_or_ge (j - 40) (psz m.b.length + m.b.length) with h2 | h2
  · rw [e1, textR_cut 65536 m.b _ _ (by omega) (by omega) h2]
  have f1 : textR 65536 (X.drop 40) = .ok (m.b.length, psz m.b.length) := by rw [e1]; exact textR_more 65536 m.b _ _ (by omega) (by omega) h2
  have e1' : X.drop 40 = (packed m.b.length ++ m.b) ++ (packed m.ps.length ++ (m.ps.flatMap tb1 ++ [])).take (j - 40 - (psz m.b.length + m.b.length)) := by
    rw [e1, List.take_append, List.take_of_length_le (by rw [List.length_append, length_packed]; omega), List.length_append, length_packed]
  have e2 : X.drop (40 + (psz m.b.length + m.b.length)) = (packed m.ps.length ++ (m.ps.flatMap tb1 ++ [])).take (j - 40 - (psz m.b.length + m.b.length)) := by
    rw [← List.drop_drop, e1']; exact List.drop_left' (by rw [List.length_append, length_packed])
  rw [f1]
  dsimp only
  clear f1 e1 e1'
  rcases Nat.lt_or_ge (j - 40 - (psz m.b.length + m.b.length)) (psz m.ps.length) with h3 | h3
  · rw [e2, cntR_cut 16 _ _ _ h3]
  have e2' : X.drop (40 + (psz m.b.length + m.b.length)) = packed m.ps.length ++ (m.ps.flatMap tb1 ++ []).take (j - 40 - (psz m.b.length + m.b.length) - psz m.ps.length) := by
    rw [e2, List.take_append, List.take_of_length_le (by rw [length_packed]; omega), length_packed]
  have f2 : cntR 16 (readPk (X.drop (40 + (psz m.b.length + m.b.length)))) = .ok (m.ps.length, psz m.ps.length) := by rw [e2']; exact cntR_of 16 _ _ (by omega) (by omega)
  have e3 : X.drop (40 + (psz m.b.length + m.b.length) + psz m.ps.length) = (m.ps.flatMap tb1 ++ []).take (j - 40 - (psz m.b.length + m.b.length) - psz m.ps.length) := by
    rw [← List.drop_drop, e2']; exact List.drop_left' (by rw [length_packed])
  rw [f2]
  dsimp only
  rw [prtR_cut m.ps hps _ _ X [] e3 (by omega)]
end Go.Proofs.Ytkoncjcnpconkaa
/- YE: layer 8: contracts of wire: formed, bytesOf, Put. -/
namespace Go.V
open Go.RowKit
def fxm (m : Mg) (i : Nat) : Int := if i = 0 then m.k else if i = 1 then m.f else if i = 2 then m.v else if i = 3 then m.r else m.s
theorem mg_num {m : Mg} (ub up : Value) (i : Nat) (h : i < 5) : (m.l ub up)[i]? = some (.int .i64 (fxm m i)) := by
  match i, h with
  | 0, _ => rfl
  | 1, _ => rfl
  | 2, _ => rfl
  | 3, _ => rfl
  | 4, _ => rfl
theorem all5 {p : Nat → Prop} : (∀ j, j < 5 → p j) ↔ p 0 ∧ p 1 ∧ p 2 ∧ p 3 ∧ p 4 := by
  constructor
  · exact fun h => ⟨h 0 (by omega), h 1 (by omega), h 2 (by omega), h 3 (by omega), h 4 (by omega)⟩
  · rintro ⟨h0, h1, h2, h3, h4⟩ j hj
    match j, hj with
    | 0, _ => exact h0
    | 1, _ => exact h1
    | 2, _ => exact h2
    | 3, _ => exact h3
    | 4, _ => exact h4
theorem numB_true {m : Mg} (h : ∀ j, j < 5 → (flo j : Int) ≤ fxm m j ∧ fxm m j ≤ (fhi j : Int)) : numB m = true := by
  unfold numB
  rw [all5] at h
  simp [flo, fhi, fxm] at h
  exact decide_eq_true (by omega)
theorem numB_false {m : Mg} (i : Nat) (hi : i < 5) (h : ¬ ((flo i : Int) ≤ fxm m i ∧ fxm m i ≤ (fhi i : Int))) : numB m = false := by
  unfold numB
  refine decide_eq_false (fun hn => h ?_)
  have : ∀ j, j < 5 → (flo j : Int) ≤ fxm m j ∧ fxm m j ≤ (fhi j : Int) := by
    rw [all5]
    simp [flo, fhi, fxm]
    omega
  exact this i hi
theorem fx_in {m : Mg} (hm : MgIn m) (i : Nat) : in64w (fxm m i) := by
  unfold fxm
  repeat' split
  · exact hm.k
  · exact hm.f
  · exact hm.v
  · exact hm.r
  · exact hm.s
theorem own_ch {w0 w : World} {v : Value} {base n : Nat} {e : TypeId} {xs : List Value} (h : w0.ownsRow base e 1 v n xs) (hc : Ch nob w0 w) : w.ownsRow base e 1 v n xs := own_bel h hc.below
/-- 'append(v, s...)', v the call's own, in a region that draws its order -/
theorem step_app1 {P : Program} {w : World} {ops : Array Oper} {o : Oper} {a : Act} {K : Act → World → Prop} {Q : Exit → Act → World → Prop} {E : Prop} (s x : Operand) {t e : TypeId} {z : Value} {by_ : Nat} (ht : SlT P t e z by_) (hgd : o.guard = none)
    (ho : o.op = .call { callee := .builtin .append, args := #[s, x], argTypes := #[t, t] })
    {base : Nat} {v : Value} {n : Nat} {xs : List Value} (hs : a.eval s = v) (hown : w.ownsRow base e 1 v n xs)
    {A : Option Addr} {m c : Nat} {news : List Value} (hx : a.eval x = .slice A m c) (hsrc : Src w A m news) (h1 : ∀ u ∈ news, u.oneCell' = true)
    (h63 : n + m ≤ maxLen) (hb : (n + m) * by_ ≤ 140737488355328) (hbase : base ≤ w.heap.size)
    (h : ∀ v' w', w'.ownsRow base e 1 v' (n + m) (xs ++ news) → w.grownBy w' v.ownBlock → K (a.put o.dst v') w') :
    if Region.wanted o (yielded ops a.tmps) = true then Oper.wp P o a w K Q else E := by
  have hw : Region.wanted o (yielded ops a.tmps) = true := by simp [Region.wanted, hgd]
  rw [if_pos hw]
  obtain ⟨v', w', hr, h2, h3, _⟩ := run_append_src (P := P) base t o.type e z by_ ht v n xs hown A m c news hsrc h1 h63 hb hbase
  unfold Oper.wp execOp
  simp only [ho, resolve, invoke, builtin, Sem.run_bind, Sem.run_pure, Result.andThen_ok, List.map_toArray, List.map_cons, List.map_nil, hs, hx, hr]
  exact h v' w' h2 h3
end Go.V
namespace Go.Proofs.Ytkoncjcnpconkaa
open Go.RowKit Go.V
theorem okN_fsz (i : Nat) : okN (fsz i : Int) := by
  unfold okN fsz
  split <;> omega
def hp8 (m : Mg) (i : Nat) : List UInt8 := (List.range i).flatMap fun j => fixR (fsz j : Int) (un (fxm m j))
theorem hp8_succ (m : Mg) (i : Nat) : hp8 m (i + 1) = hp8 m i ++ fixR (fsz i : Int) (un (fxm m i)) := by
  unfold hp8
  rw [List.range_succ, List.flatMap_append, List.flatMap_singleton]
theorem hp8_hd (m : Mg) : hp8 m 5 ++ m.h = Mg.hd m := by
  unfold Mg.hd
  congr 1
theorem len_fixS (i x : Nat) : (fixR (fsz i : Int) x).length = fsz i := fix_len (fsz i) x (okN_fsz i)
theorem len_hp8 (m : Mg) : ∀ i, (hp8 m i).length ≤ 2 * i
  | 0 => by unfold hp8; simp
  | i + 1 => by
    rw [hp8_succ, List.length_append, len_fixS]
    have := len_hp8 m i
    have : fsz i ≤ 2 := by unfold fsz; split <;> omega
    omega
def errG (m : Mg) : Nat := if 16 < m.ps.length ∨ 65504 < (Mg.by m).length then 4 else if numB m then 0 else 15
theorem errG_M {m : Mg} (hh : m.h.length = 32) (hlo : longB m = false) : errG m = errM m := by
  have := len_by hh hlo
  unfold errG errM
  by_cases h : 16 < m.ps.length
  · rw [if_pos (.inl h), if_pos h]
  · rw [if_neg (by omega), if_neg h]
end Go.Proofs.Ytkoncjcnpconkaa
