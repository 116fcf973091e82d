/- Cq: several texts in one (Xp Cq). -/
import Derived.Test.YtnhhbbjkeekneaaDoorCp
import Derived.Test.YtnhhbbjkeekneaaDoorYC
import Derived.Test.YtnhhbbjkeekneaaDoorS8
/- Xp: layer 19, pure: who wants which regency. No project text. -/
namespace Go.Proofs.YtnhhbbjkeekneaaDoor
open Go.RowKit Go.V
/-- what Take tells: W holds of each number the greatest regency wanted, and one more (0: none) -/
def tsE (ks : List (List UInt8)) (V : Vc) (W : List Nat) (X : List UInt8) : Int := match opOf ks V X with
  | .error e => (e : Int)
  | .ok m => if m.k ≠ 4 then 15 else if m.v ≠ V.n then 9 else if m.r.toNat + 1 ≤ W.getD m.f.toNat 0 then 7 else 0
/-- who wants what behind a Take -/
def tsW (ks : List (List UInt8)) (V : Vc) (W : List Nat) (X : List UInt8) : List Nat := match opOf ks V X with
  | .error _ => W
  | .ok m => if m.k ≠ 4 then W else if m.v ≠ V.n then W else if m.r.toNat + 1 ≤ W.getD m.f.toNat 0 then W else W.set m.f.toNat (m.r.toNat + 1)
/-- how many want a regency -/
def cntW (W : List Nat) (r : Int) : Nat := (W.filter (fun (x : Nat) => decide (0 < x ∧ r ≤ (x : Int) - 1))).length
def isW (W : List Nat) (above : Int) (many : Nat) (r : Nat) : Bool := decide (above < (r : Int) ∧ 0 < many ∧ many ≤ cntW W (r : Int))
/-- the greatest regency, below n, above one that so many want; -1: there is none -/
def gW (W : List Nat) (above : Int) (many : Nat) : Nat → Int
  | 0 => -1
  | n + 1 => if isW W above many n = true then (n : Int) else gW W above many n
def grW (W : List Nat) (above : Int) (many : Nat) : Int := gW W above many 41
def w0W : List Nat := List.replicate 16 0
theorem g_bd {W : List Nat} {above : Int} {many : Nat} : ∀ n, gW W above many n = -1 ∨ above < gW W above many n
  | 0 => .inl rfl
  | n + 1 => by
    unfold gW
    split
    · rename_i h
      unfold isW at h
      exact .inr (of_decide_eq_true h).1
    · exact g_bd n
theorem g_lt {W : List Nat} {above : Int} {many : Nat} : ∀ n, gW W above many n < n ∧ -1 ≤ gW W above many n
  | 0 => ⟨by show (-1 : Int) < 0; omega, Int.le_refl _⟩
  | n + 1 => by
    unfold gW
    split
    · omega
    · have := g_lt (W := W) (above := above) (many := many) n
      omega
/-- what more want, fewer want too -/
theorem g_le {W : List Nat} {above : Int} {a b : Nat} (hab : a ≤ b) (ha : 0 < a) : ∀ n, gW W above b n ≤ gW W above a n
  | 0 => Int.le_refl _
  | n + 1 => by
    have ih := g_le (W := W) (above := above) hab ha n
    have h2 := (g_lt (W := W) (above := above) (many := b) n).1
    unfold gW
    by_cases h : isW W above b n = true
    · have h3 : isW W above a n = true := by
        unfold isW at h ⊢
        rw [decide_eq_true_eq] at h ⊢
        exact ⟨h.1, ha, by omega⟩
      rw [if_pos h, if_pos h3]
      exact Int.le_refl _
    · rw [if_neg h]
      split
      · omega
      · exact ih
theorem g_none {W : List Nat} {above : Int} : ∀ n, gW W above 0 n = -1
  | 0 => rfl
  | n + 1 => by
    unfold gW
    rw [if_neg (by unfold isW; simp)]
    exact g_none n
/-- what some want, enough may not; but what enough want some do -/
theorem gr_least (n : Int) (M : Nat) (W : List Nat) (above : Int) : (grW W above (somN n M) = -1 ∨ above < grW W above (somN n M)) ∧ (grW W above (enoN n M) = -1 ∨ above < grW W above (enoN n M)) ∧ grW W above (enoN n M) ≤ grW W above (somN n M) := by
  refine ⟨g_bd 41, g_bd 41, ?_⟩
  unfold grW
  cases hr : rgt n M with
  | false =>
    have e1 : enoN n M = 0 := by unfold enoN; rw [hr]; rfl
    have e2 : somN n M = 0 := by unfold somN; rw [hr]; rfl
    rw [e1, e2]
    exact Int.le_refl _
  | true =>
    have hs := rgt_sz hr
    have e0 : fltN n M = (szM M - 1) / 3 := by unfold fltN; rw [if_pos hr]
    have e1 : enoN n M = szM M - fltN n M := by unfold enoN; rw [if_pos hr]
    have e2 : somN n M = fltN n M + 1 := by unfold somN; rw [if_pos hr]
    exact g_le (by omega) (by omega) 41
end Go.Proofs.YtnhhbbjkeekneaaDoor
/- Cq: layer 17, pure: the message that bytes tell, by its head. No project text. -/
namespace Go.Proofs.YtnhhbbjkeekneaaDoor
open Go.RowKit Go.V
def fldG (X : List UInt8) : List Nat → Nat → List Nat
  | [], _ => []
  | n :: ns, k => fixN ((X.drop k).take n) :: fldG X ns (k + n)
theorem fld_all (X : List UInt8) : ∀ (ns : List Nat) (k : Nat), (∀ n ∈ ns, okN (n : Int)) → k + ns.sum ≤ X.length → fldR ns k X = .ok (fldG X ns k)
  | [], _, _, _ => rfl
  | n :: ns, k, h, hl => by
    rw [List.sum_cons] at hl
    have ih := fld_all X ns (k + n) (fun m hm => h m (by simp [hm])) (by omega)
    have h1 : fixRd (n : Int) (X.drop k) = .ok (fixN ((X.drop k).take n)) := by
      unfold fixRd
      rw [if_pos (h n (by simp)), Int.toNat_natCast, if_neg (by rw [List.length_drop]; omega)]
    simp only [fldR, h1, ih, fldG]
theorem fld_short (X : List UInt8) : ∀ (ns : List Nat) (k : Nat), (∀ n ∈ ns, okN (n : Int)) → k ≤ X.length → X.length < k + ns.sum → fldR ns k X = .error 1
  | [], k, _, h1, h2 => by simp at h2; omega
  | n :: ns, k, h, h1, h2 => by
    rw [List.sum_cons] at h2
    by_cases hs : X.length < k + n
    · have h3 : fixRd (n : Int) (X.drop k) = .error 1 := by
        unfold fixRd
        rw [if_pos (h n (by simp)), Int.toNat_natCast, if_pos (by rw [List.length_drop]; omega)]
      simp only [fldR, h3]
    · have ih := fld_short X ns (k + n) (fun m hm => h m (by simp [hm])) (by omega) (by omega)
      have h3 : fixRd (n : Int) (X.drop k) = .ok (fixN ((X.drop k).take n)) := by
        unfold fixRd
        rw [if_pos (h n (by simp)), Int.toNat_natCast, if_neg (by rw [List.length_drop]; omega)]
      simp only [fldR, h3, ih]
theorem szs_ok : ∀ n ∈ szs8, okN ((n : Nat) : Int) := by
  intro n hn
  unfold szs8 at hn
  simp only [List.mem_append, List.mem_cons, List.not_mem_nil, or_false, List.mem_replicate] at hn
  unfold okN
  omega
theorem fix_one (c : UInt8) : fixN [c] = c.toNat := by simp [fixN]
theorem fldG_ones (X : List UInt8) : ∀ (n k : Nat), k + n ≤ X.length → (fldG X (List.replicate n 1) k).map UInt8.ofNat = (X.drop k).take n
  | 0, _, _ => rfl
  | n + 1, k, h => by
    have ih := fldG_ones X n (k + 1) (by omega)
    have hd : X.drop k = X[k] :: X.drop (k + 1) := List.drop_eq_getElem_cons (by omega)
    rw [List.replicate_succ]
    simp only [fldG, List.map_cons, ih]
    rw [hd, List.take_succ_cons, List.take_succ_cons, List.take_zero, fix_one]
    congr 1
    exact UInt8.ofNat_toNat
theorem fldG_app (X : List UInt8) : ∀ (a b : List Nat) (k : Nat), fldG X (a ++ b) k = fldG X a k ++ fldG X b (k + a.sum)
  | [], b, k => by simp [fldG]
  | n :: a, b, k => by
    simp only [List.cons_append, fldG, fldG_app X a b (k + n), List.sum_cons, Nat.add_assoc]
/-- a message's head, out of bytes -/
def mkH (X : List UInt8) (b : List UInt8) (ps : List (List UInt8)) : Mg :=
  ⟨((X.getD 0 0).toNat : Int), ((X.getD 1 0).toNat : Int), (fixN ((X.drop 2).take 2) : Int), (fixN ((X.drop 4).take 2) : Int), (fixN ((X.drop 6).take 2) : Int), (X.drop 8).take 32, b, ps⟩
theorem mk_h {X : List UInt8} (h : 40 ≤ X.length) (b : List UInt8) (ps : List (List UInt8)) : mkM (fldG X szs8 0) b ps = mkH X b ps := by
  have e : fldG X szs8 0 = [fixN (X.take 1), fixN ((X.drop 1).take 1), fixN ((X.drop 2).take 2), fixN ((X.drop 4).take 2), fixN ((X.drop 6).take 2)] ++ fldG X (List.replicate 32 1) 8 := by
    unfold szs8
    rw [fldG_app]
    rfl
  have h0 : X.take 1 = [X.getD 0 0] := by
    match X, h with
    | a :: _, _ => rfl
  have h1 : (X.drop 1).take 1 = [X.getD 1 0] := by
    match X, h with
    | a :: c :: _, _ => rfl
  rw [e, h0, h1, fix_one, fix_one]
  unfold mkM mkH
  have h8 : (([(X.getD 0 0).toNat, (X.getD 1 0).toNat, fixN ((X.drop 2).take 2), fixN ((X.drop 4).take 2), fixN ((X.drop 6).take 2)] ++ fldG X (List.replicate 32 1) 8).drop 5).map UInt8.ofNat = (X.drop 8).take 32 := fldG_ones X 32 8 (by omega)
  rw [h8]
  rfl
theorem rd_short {X : List UInt8} (h : X.length < 40) : rdM X = .error 1 := by
  have := fld_short X szs8 0 szs_ok (Nat.zero_le _) (by rw [sum_szs8]; omega)
  unfold rdM
  rw [this]
theorem rd_head {X : List UInt8} (h : 40 ≤ X.length) : rdM X = match textR 65536 (X.drop 40) with
    | .error e => .error e
    | .ok (n, z) => match cntR 16 (readPk (X.drop (40 + (z + n)))) with
      | .error e => .error e
      | .ok (c, y) => match prtR c (40 + (z + n) + y) X with
        | .error e => .error e
        | .ok (ts, k) => if k < X.length then .error 2 else if numB (mkH X (((X.drop 40).drop z).take n) ts) = true then .ok (mkH X (((X.drop 40).drop z).take n) ts) else .error 15 := by
  have := fld_all X szs8 0 szs_ok (by rw [sum_szs8]; omega)
  unfold rdM
  rw [this]
  simp only [mk_h h]
  cases textR 65536 (X.drop 40) with
  | error e => rfl
  | ok r =>
    obtain ⟨n, z⟩ := r
    dsimp only
    cases cntR 16 (readPk (X.drop (40 + (z + n)))) with
    | error e => rfl
    | ok r =>
      obtain ⟨c, y⟩ := r
      dsimp only
      cases prtR c (40 + (z + n) + y) X with
      | error e => rfl
      | ok r => rfl
end Go.Proofs.YtnhhbbjkeekneaaDoor
