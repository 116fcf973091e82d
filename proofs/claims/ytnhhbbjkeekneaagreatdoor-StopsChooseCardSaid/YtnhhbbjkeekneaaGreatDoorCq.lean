/- Cq: layer 17, pure: the message that bytes tell, by its head. No project text. -/
import Derived.Test.YtnhhbbjkeekneaaGreatDoorXp
import Derived.Test.YtnhhbbjkeekneaaGreatDoorYC
import Derived.Test.YtnhhbbjkeekneaaGreatDoorS8
namespace Go.Proofs.YtnhhbbjkeekneaaGreatDoor
open Go.RowKit Go.V
def fldG (X : List UInt8) : List Nat -> Nat -> List Nat
 | [], _ => []
 | n :: ns, k => fixN ((X.drop k).take n) :: fldG X ns (k + n)
theorem fld_all (X : List UInt8) : ∀ (ns : List Nat) (k : Nat), (∀ n ∈ ns, okN (n : Int)) -> k + ns.sum <= X.length -> fldR ns k X = .ok (fldG X ns k)
 | [], _, _, _ => rfl
 | n :: ns, k, h, hl => by
  rw [List.sum_cons] at hl; have ih := fld_all X ns (k + n) (fun m hm => h m (by simp [hm])) (by omega)
  have h1 : fixRd (n : Int) (X.drop k) = .ok (fixN ((X.drop k).take n)) := by
   unfold fixRd; rw [if_pos (h n (by simp)), Int.toNat_natCast, if_neg (by rw [List.length_drop]; omega)]
  simp only [fldR, h1, ih, fldG]
theorem fld_short (X : List UInt8) : ∀ (ns : List Nat) (k : Nat), (∀ n ∈ ns, okN (n : Int)) -> k <= X.length -> X.length < k + ns.sum -> fldR ns k X = .error 1
 | [], k, _, h1, h2 => by simp at h2; omega
 | n :: ns, k, h, h1, h2 => by
  rw [List.sum_cons] at h2; by_cases hs : X.length < k + n
  . have h3 : fixRd (n : Int) (X.drop k) = .error 1 := by
     unfold fixRd; rw [if_pos (h n (by simp)), Int.toNat_natCast, if_pos (by rw [List.length_drop]; omega)]
    simp only [fldR, h3]
  . have ih := fld_short X ns (k + n) (fun m hm => h m (by simp [hm])) (by omega) (by omega)
    have h3 : fixRd (n : Int) (X.drop k) = .ok (fixN ((X.drop k).take n)) := by
     unfold fixRd; rw [if_pos (h n (by simp)), Int.toNat_natCast, if_neg (by rw [List.length_drop]; omega)]
    simp only [fldR, h3, ih]
theorem szs_ok : ∀ n ∈ szs8, okN ((n : Nat) : Int) := by
 intro n hn; unfold szs8 at hn; simp only [List.mem_append, List.mem_cons, List.not_mem_nil, or_false, List.mem_replicate] at hn; unfold okN; omega
theorem fix_one (c : UInt8) : fixN [c] = c.toNat := by simp [fixN]
theorem fldG_ones (X : List UInt8) : ∀ (n k : Nat), k + n <= X.length -> (fldG X (List.replicate n 1) k).map UInt8.ofNat = (X.drop k).take n
 | 0, _, _ => rfl
 | n + 1, k, h => by
  have ih := fldG_ones X n (k + 1) (by omega); have hd : X.drop k = X[k] :: X.drop (k + 1) := List.drop_eq_getElem_cons (by omega); rw [List.replicate_succ]; simp only [fldG, List.map_cons, ih]; rw [hd, List.take_succ_cons, List.take_succ_cons, List.take_zero, fix_one]
  congr 1
  exact UInt8.ofNat_toNat
theorem fldG_app (X : List UInt8) : ∀ (a b : List Nat) (k : Nat), fldG X (a ++ b) k = fldG X a k ++ fldG X b (k + a.sum)
 | [], b, k => by simp [fldG]
 | n :: a, b, k => by
  simp only [List.cons_append, fldG, fldG_app X a b (k + n), List.sum_cons, Nat.add_assoc]
def mkH (X : List UInt8) (b : List UInt8) (ps : List (List UInt8)) : Mg :=
 ⟨((X.getD 0 0).toNat : Int), ((X.getD 1 0).toNat : Int), (fixN ((X.drop 2).take 2) : Int), (fixN ((X.drop 4).take 2) : Int), (fixN ((X.drop 6).take 2) : Int), (X.drop 8).take 32, b, ps⟩
theorem mk_h {X : List UInt8} (h : 40 <= X.length) (b : List UInt8) (ps : List (List UInt8)) : mkM (fldG X szs8 0) b ps = mkH X b ps := by
 have e : fldG X szs8 0 = [fixN (X.take 1), fixN ((X.drop 1).take 1), fixN ((X.drop 2).take 2), fixN ((X.drop 4).take 2), fixN ((X.drop 6).take 2)] ++ fldG X (List.replicate 32 1) 8 := by
  unfold szs8; rw [fldG_app]; rfl
 have h0 : X.take 1 = [X.getD 0 0] := by
  match X, h with
  | a :: _, _ => rfl
 have h1 : (X.drop 1).take 1 = [X.getD 1 0] := by
  match X, h with
  | a :: c :: _, _ => rfl
 rw [e, h0, h1, fix_one, fix_one]; unfold mkM mkH; have h8 : (([(X.getD 0 0).toNat, (X.getD 1 0).toNat, fixN ((X.drop 2).take 2), fixN ((X.drop 4).take 2), fixN ((X.drop 6).take 2)] ++ fldG X (List.replicate 32 1) 8).drop 5).map UInt8.ofNat = (X.drop 8).take 32 := fldG_ones X 32 8 (by omega); rw [h8]; rfl
theorem rd_short {X : List UInt8} (h : X.length < 40) : rdM X = .error 1 := by
 have := fld_short X szs8 0 szs_ok (Nat.zero_le _) (by rw [sum_szs8]; omega); unfold rdM; rw [this]
theorem rd_head {X : List UInt8} (h : 40 <= X.length) : rdM X = match textR 65536 (X.drop 40) with
 | .error e => .error e
 | .ok (n, z) => match cntR 16 (readPk (X.drop (40 + (z + n)))) with
  | .error e => .error e
  | .ok (c, y) => match prtR c (40 + (z + n) + y) X with
   | .error e => .error e
   | .ok (ts, k) => if k < X.length then .error 2 else if numB (mkH X (((X.drop 40).drop z).take n) ts) = true then .ok (mkH X (((X.drop 40).drop z).take n) ts) else .error 15 := by
 have := fld_all X szs8 0 szs_ok (by rw [sum_szs8]; omega); unfold rdM; rw [this]; simp only [mk_h h]; cases textR 65536 (X.drop 40) with
 | error e => rfl
 | ok r =>
  obtain ⟨n, z⟩ := r; dsimp only; cases cntR 16 (readPk (X.drop (40 + (z + n)))) with
  | error e => rfl
  | ok r =>
   obtain ⟨c, y⟩ := r; dsimp only; cases prtR c (40 + (z + n) + y) X with
   | error e => rfl
   | ok r => rfl
theorem nb_fix (b : List UInt8) (k : Nat) : ∀ n, k + n <= b.length -> nb b k n = fixN ((b.drop k).take n)
 | 0, _ => rfl
 | n + 1, h => by
  have ih := nb_fix b k n (by omega)
  have e : (b.drop k).take (n + 1) = (b.drop k).take n ++ [b.getD (k + n) 0] := by
   rw [List.take_add_one, List.getElem?_drop, List.getD_eq_getElem?_getD, List.getElem?_eq_getElem (by omega)]; rfl
  rw [e, fixN_snoc, nb, ih, Nat.mul_comm]
end Go.Proofs.YtnhhbbjkeekneaaGreatDoor
