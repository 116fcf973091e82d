/- H1: several texts in one (H0 H1 HP). -/
import Derived.Test.YtijhicfegbaadaaDoorSM
import Derived.Test.YtijhicfegbaadaaDoorDU
import Derived.Test.YtijhicfegbaadaaDoorM1
import Derived.Sort.LotA
import Derived.Test.YtijhicfegbaadaaDoorDO
import Derived.Lib.OthersKept
import Derived.Laws.RangeAny
import Derived.Deep.DeepCutAuto
import Derived.WalkSpells
import Derived.Laws.IdiomStrings
import Derived.Test.YtijhicfegbaadaaDoorEP
/- H0: layer 11, pure: numbers in digits and their order; a record's bytes; the files of a log. -/
namespace Go.V
open Go.RowKit
/-- may a text be a log's prefix? -/
def okP (p : ByteArray) : Bool := decide (1 ≤ p.size) && decide (p.size ≤ 8) && p.toList.all fun c => decide (97 ≤ c.toNat) && decide (c.toNat ≤ 122)
/-- a record's bytes -/
def recF (n : Nat) (t : List UInt8) : List UInt8 := (packed n ++ (packed t.length ++ t)) ++ (shaF (packed n ++ (packed t.length ++ t))).take 8
def d0L (room : Int) : Dk := ⟨room, [], [], -1, false⟩
/-- a number's digits, without noughts ahead; of 0: none -/
def digs (n : Nat) : List UInt8 := if n = 0 then [] else digs (n / 10) ++ [UInt8.ofNat (48 + n % 10)]
theorem digs_zero : digs 0 = [] := by unfold digs; rfl
theorem digs_pos {n : Nat} (h : n ≠ 0) : digs n = digs (n / 10) ++ [UInt8.ofNat (48 + n % 10)] := by
  rw [digs, if_neg h]
def incR : List UInt8 → List UInt8
  | [] => [49]
  | d :: r => if d < 57 then (d + 1) :: r else 48 :: incR r
def incF (l : List UInt8) : List UInt8 := (incR l.reverse).reverse
theorem dig_nat {k : Nat} (h : k < 10) : (UInt8.ofNat (48 + k)).toNat = 48 + k := by
  rw [UInt8.toNat_ofNat']
  exact Nat.mod_eq_of_lt (by omega)
theorem dig_lt {k : Nat} (h : k < 10) : UInt8.ofNat (48 + k) < 57 ↔ k < 9 := by
  rw [UInt8.lt_iff_toNat_lt, dig_nat h]
  show _ < 57 ↔ _
  omega
theorem dig_inc {k : Nat} (h : k < 9) : UInt8.ofNat (48 + k) + 1 = UInt8.ofNat (48 + (k + 1)) := by
  apply UInt8.toNat_inj.1
  rw [UInt8.toNat_add, dig_nat (by omega), dig_nat (by omega)]
  show (48 + k + 1) % 256 = _
  omega
theorem inc_digs : ∀ n : Nat, incF (digs n) = digs (n + 1) := by
  intro n
  induction n using Nat.strongRecOn with
  | ind n ih =>
    by_cases h0 : n = 0
    · subst h0
      rw [digs_zero, digs_pos (by omega)]
      rw [show (0 + 1) / 10 = 0 from rfl, digs_zero]
      rfl
    · rw [digs_pos h0, digs_pos (n := n + 1) (by omega)]
      unfold incF
      rw [List.reverse_append]
      show (incR (_ :: (digs (n / 10)).reverse)).reverse = _
      rw [incR]
      by_cases h9 : n % 10 < 9
      · rw [if_pos ((dig_lt (by omega)).2 h9), dig_inc h9, show (n + 1) / 10 = n / 10 from by omega, show (n + 1) % 10 = n % 10 + 1 from by omega]
        simp
      · rw [if_neg (fun h => h9 ((dig_lt (by omega)).1 h)), show (n + 1) / 10 = n / 10 + 1 from by omega, show (n + 1) % 10 = 0 from by omega, ← ih (n / 10) (by omega)]
        unfold incF
        simp
theorem digs_len : ∀ (k n : Nat), n < 10 ^ k → (digs n).length ≤ k
  | 0, n, h => by
    have : n = 0 := by simp at h; exact h
    subst this
    rw [digs_zero]
    exact Nat.le_refl _
  | k + 1, n, h => by
    by_cases h0 : n = 0
    · subst h0; rw [digs_zero]; exact Nat.zero_le _
    · rw [digs_pos h0, List.length_append, List.length_singleton]
      have := digs_len k (n / 10) (by rw [Nat.pow_succ] at h; omega)
      omega
/-- is it a segment's number, in digits? -/
def numB (s : List UInt8) : Bool := (s != []) && (s.headD 0 != 48) && s.all fun c => decide (48 ≤ c.toNat) && decide (c.toNat ≤ 57)
theorem digs_all : ∀ n : Nat, (digs n).all (fun c => decide (48 ≤ c.toNat) && decide (c.toNat ≤ 57)) = true := by
  intro n
  induction n using Nat.strongRecOn with
  | ind n ih =>
    by_cases h0 : n = 0
    · subst h0; rw [digs_zero]; rfl
    · rw [digs_pos h0, List.all_append, ih (n / 10) (by omega)]
      simp only [List.all_cons, List.all_nil, Bool.and_true, Bool.true_and, dig_nat (Nat.mod_lt n (by omega : 10 > 0)), Bool.and_eq_true, decide_eq_true_eq]
      omega
theorem digs_head : ∀ n : Nat, n ≠ 0 → digs n ≠ [] ∧ (digs n).headD 0 ≠ 48 := by
  intro n
  induction n using Nat.strongRecOn with
  | ind n ih =>
    intro h0
    rw [digs_pos h0]
    by_cases h1 : n / 10 = 0
    · rw [h1, digs_zero]
      refine ⟨by simp, ?_⟩
      show UInt8.ofNat (48 + n % 10) ≠ 48
      intro h
      have := congrArg UInt8.toNat h
      rw [dig_nat (Nat.mod_lt n (by omega))] at this
      have h2 : (48 : UInt8).toNat = 48 := rfl
      rw [h2] at this
      omega
    · obtain ⟨h2, h3⟩ := ih (n / 10) (by omega) h1
      refine ⟨by simp, ?_⟩
      cases hd : digs (n / 10) with
      | nil => exact absurd hd h2
      | cons c r =>
        rw [hd] at h3
        exact h3
theorem digs_num {n : Nat} (h : n ≠ 0) : numB (digs n) = true := by
  obtain ⟨h1, h2⟩ := digs_head n h
  unfold numB
  rw [digs_all n]
  simp only [Bool.and_true, Bool.and_eq_true, bne_iff_ne, ne_eq]
  exact ⟨h1, h2⟩
/-- the order of numbers in digits -/
def cmpN (a b : List UInt8) : Int := if a.length < b.length then -1 else if b.length < a.length then 1 else if a < b then -1 else if b < a then 1 else 0
def lnB (a b : List UInt8) : Bool := decide (cmpN a b < 0)
theorem ltN (a b : List UInt8) : lnB a b = decide (a.length < b.length ∨ (a.length = b.length ∧ a < b)) := by
  unfold lnB cmpN
  by_cases h1 : a.length < b.length
  · simp [h1]
  · by_cases h2 : b.length < a.length
    · have h3 : ¬ a.length = b.length := by omega
      simp [h1, h2, h3]
    · have h3 : a.length = b.length := by omega
      by_cases h4 : a < b
      · simp [h3, h4]
      · by_cases h5 : b < a <;> simp [h3, h4, h5]
theorem swoN : Go.Sort.SWO lnB where
  irrefl x := by rw [ltN]; simp [List.lt_irrefl]
  trans x y z h1 h2 := by
    rw [ltN, decide_eq_true_eq] at *
    rcases h1 with h1 | ⟨e1, h1⟩
    · left; rcases h2 with h2 | ⟨e2, h2⟩ <;> omega
    · rcases h2 with h2 | ⟨e2, h2⟩
      · left; omega
      · exact .inr ⟨by omega, List.lt_trans h1 h2⟩
  ntrans x y z h1 h2 := by
    rw [ltN, decide_eq_false_iff_not] at *
    rintro (h | ⟨e, h⟩)
    · rcases Nat.lt_or_ge x.length y.length with h3 | h3
      · exact h1 (.inl h3)
      · exact h2 (.inl (by omega))
    · by_cases h3 : x.length < y.length
      · exact h1 (.inl h3)
      · by_cases h4 : y.length < z.length
        · exact h2 (.inl h4)
        · have e1 : x.length = y.length := by omega
          have e2 : y.length = z.length := by omega
          have n1 : ¬ x < y := fun h => h1 (.inr ⟨e1, h⟩)
          have n2 : ¬ y < z := fun h => h2 (.inr ⟨e2, h⟩)
          have := List.le_trans (List.not_lt.1 n2) (List.not_lt.1 n1)
          exact (List.not_lt.2 this) h
theorem antiN (x y : List UInt8) (h1 : lnB x y = false) (h2 : lnB y x = false) : x = y := by
  rw [ltN, decide_eq_false_iff_not] at *
  have e : x.length = y.length := by
    rcases Nat.lt_trichotomy x.length y.length with h | h | h
    · exact absurd (.inl h) h1
    · exact h
    · exact absurd (.inl h) h2
  exact List.le_antisymm (List.not_lt.1 (fun h => h2 (.inr ⟨e.symm, h⟩))) (List.not_lt.1 (fun h => h1 (.inr ⟨e, h⟩)))
theorem lt_app_same : ∀ (a : List UInt8) {x y : List UInt8}, x < y → a ++ x < a ++ y
  | [], _, _, h => h
  | c :: a, x, y, h => by
    rw [List.cons_append, List.cons_append, List.cons_lt_cons_iff]
    exact .inr ⟨rfl, lt_app_same a h⟩
theorem lt_app_len : ∀ {a b : List UInt8} (x y : List UInt8), a.length = b.length → a < b → a ++ x < b ++ y
  | [], [], _, _, _, h => absurd h (List.lt_irrefl _)
  | [], _ :: _, _, _, h, _ => by simp at h
  | _ :: _, [], _, _, h, _ => by simp at h
  | c :: a, d :: b, x, y, hl, h => by
    rw [List.cons_lt_cons_iff] at h
    rw [List.cons_append, List.cons_append, List.cons_lt_cons_iff]
    rcases h with h | ⟨e, h⟩
    · exact .inl h
    · exact .inr ⟨e, lt_app_len x y (by simpa using hl) h⟩
theorem lt_succN : ∀ n : Nat, lnB (digs n) (digs (n + 1)) = true := by
  intro n
  induction n using Nat.strongRecOn with
  | ind n ih =>
    rw [ltN, decide_eq_true_eq]
    by_cases h0 : n = 0
    · subst h0
      left
      rw [digs_zero, digs_pos (by omega)]
      simp
    · rw [digs_pos h0, digs_pos (n := n + 1) (by omega)]
      by_cases h9 : n % 10 < 9
      · right
        rw [show (n + 1) / 10 = n / 10 from by omega, show (n + 1) % 10 = n % 10 + 1 from by omega]
        refine ⟨by simp, lt_app_same _ ?_⟩
        rw [List.cons_lt_cons_iff]
        left
        rw [UInt8.lt_iff_toNat_lt, dig_nat (by omega), dig_nat (by omega)]
        omega
      · rw [show (n + 1) / 10 = n / 10 + 1 from by omega]
        have h := ih (n / 10) (by omega)
        rw [ltN, decide_eq_true_eq] at h
        rcases h with h | ⟨e, h⟩
        · left; simp; omega
        · right
          exact ⟨by simp [e], lt_app_len _ _ e h⟩
theorem lt_addN (n : Nat) : ∀ k : Nat, lnB (digs n) (digs (n + (k + 1))) = true
  | 0 => lt_succN n
  | k + 1 => swoN.trans _ _ _ (lt_addN n k) (lt_succN (n + (k + 1)))
theorem digs_lt {m n : Nat} (h : m < n) : lnB (digs m) (digs n) = true := by
  have := lt_addN m (n - m - 1)
  rwa [show m + (n - m - 1 + 1) = n from by omega] at this
theorem digs_inj {m n : Nat} (h : digs m = digs n) : m = n := by
  rcases Nat.lt_trichotomy m n with h1 | h1 | h1
  · have := digs_lt h1
    rw [h, swoN.irrefl] at this
    cases this
  · exact h1
  · have := digs_lt h1
    rw [h, swoN.irrefl] at this
    cases this
/-- the numbers lo, lo + 1, .. in digits -/
def nums (lo : Nat) (k : Nat) : List (List UInt8) := (List.range' lo k).map digs
theorem nums_sort {lo k : Nat} {d : List (List UInt8)} (h : d.Perm (nums lo k)) : (d.mergeSort fun x y => !lnB y x) = nums lo k := by
  have hp : (nums lo k).Pairwise fun x y => (!lnB y x) = true := by
    unfold nums
    rw [List.pairwise_map]
    refine (List.pairwise_lt_range' (s := lo) (n := k)).imp ?_
    intro a b hab
    have h1 := digs_lt hab
    cases h2 : lnB (digs b) (digs a) with
    | false => rfl
    | true =>
      have := swoN.trans _ _ _ h1 h2
      rw [swoN.irrefl] at this
      cases this
  refine List.Perm.eq_of_pairwise (le := fun x y => (!lnB y x) = true) ?_ ?_ hp ((List.mergeSort_perm _ _).trans h)
  · intro a b _ _ h1 h2
    simp only [Bool.not_eq_true'] at h1 h2
    exact antiN _ _ h2 h1
  · refine List.pairwise_mergeSort ?_ ?_ _
    · intro a b c h1 h2
      simp only [Bool.not_eq_true'] at h1 h2 ⊢
      exact swoN.ntrans _ _ _ h2 h1
    · intro a b
      cases h1 : lnB b a with
      | false => rfl
      | true =>
        cases h2 : lnB a b with
        | false => rfl
        | true =>
          have := swoN.trans _ _ _ h1 h2
          rw [swoN.irrefl] at this
          cases this
end Go.V
/- H1: layer 11: what only reads: signs of a string, numbers compared, a string without its prefix, a name. -/
namespace Go.V
open Go.RowKit
def fromF (a b : Nat) (s : ByteArray) : Bool := s.toList.all fun c => decide (a ≤ c.toNat) && decide (c.toNat ≤ b)
theorem ba_toList (s : ByteArray) : s.toList = s.data.toList := by
  have h : ∀ (n i : Nat) (r : List UInt8), s.size - i = n → ByteArray.toList.loop s i r = r.reverse ++ s.data.toList.drop i := by
    intro n
    induction n with
    | zero =>
      intro i r hn
      rw [ByteArray.toList.loop, if_neg (by omega), List.drop_eq_nil_of_le (by show s.data.toList.length ≤ i; rw [Array.length_toList]; show s.size ≤ i; omega)]
      simp
    | succ n ih =>
      intro i r hn
      have hi : i < s.size := by omega
      rw [ByteArray.toList.loop, if_pos hi, ih (i + 1) _ (by omega)]
      have h2 : i < s.data.toList.length := by rw [Array.length_toList]; exact hi
      rw [List.drop_eq_getElem_cons h2]
      simp [ByteArray.get!, hi]
  have := h s.size 0 [] (by omega)
  simpa [ByteArray.toList] using this
theorem from_step {a b : Nat} {s : ByteArray} {i : Nat} (h : i < s.size) (hp : (s.data.toList.take i).all (fun c => decide (a ≤ c.toNat) && decide (c.toNat ≤ b)) = true) (h1 : a ≤ (s[i]'h).toNat) (h2 : (s[i]'h).toNat ≤ b) : (s.data.toList.take (i + 1)).all (fun c => decide (a ≤ c.toNat) && decide (c.toNat ≤ b)) = true := by
  have hl : i < s.data.toList.length := by rw [Array.length_toList]; exact h
  rw [List.take_succ_eq_append_getElem hl, List.all_append, hp]
  have e : s.data.toList[i] = s[i]'h := by rw [Array.getElem_toList]; rfl
  simp [e, h1, h2]
theorem from_bad {a b : Nat} {s : ByteArray} {i : Nat} (h : i < s.size) (h1 : ¬ (a ≤ (s[i]'h).toNat ∧ (s[i]'h).toNat ≤ b)) : fromF a b s = false := by
  unfold fromF
  rw [ba_toList]
  have hl : i < s.data.toList.length := by rw [Array.length_toList]; exact h
  have e : s.data.toList[i] = s[i]'h := by rw [Array.getElem_toList]; rfl
  rw [List.all_eq_false]
  refine ⟨s.data.toList[i], List.getElem_mem hl, ?_⟩
  rw [e]
  simp only [Bool.and_eq_true, decide_eq_true_eq]
  exact h1
theorem from_end {a b : Nat} {s : ByteArray} (hp : (s.data.toList.take s.size).all (fun c => decide (a ≤ c.toNat) && decide (c.toNat ≤ b)) = true) : fromF a b s = true := by
  unfold fromF
  rw [ba_toList]
  rwa [List.take_of_length_le (by rw [Array.length_toList]; exact Nat.le_refl _)] at hp
end Go.V
namespace Go.Proofs.YtijhicfegbaadaaDoor
open Go.RowKit Go.V
theorem okP_eq (p : ByteArray) : okP p = (decide (1 ≤ p.size) && decide (p.size ≤ 8) && fromF 97 122 p) := rfl
theorem numB_nil {s : ByteArray} (h : s.toList = []) : numB s.data.toList = false := by
  rw [ba_toList] at h
  rw [h]
  rfl
theorem numB_eq {s : ByteArray} (h : 0 < s.size) : numB s.data.toList = (((s[0]'h) != 48) && fromF 48 57 s) := by
  unfold numB fromF
  rw [ba_toList]
  have hl : 0 < s.data.toList.length := by rw [Array.length_toList]; exact h
  have e : s.data.toList[0] = s[0]'h := by rw [Array.getElem_toList]; rfl
  rw [← e]
  generalize s.data.toList = l at hl
  cases l with
  | nil => cases hl
  | cons c r => rfl
def cmpI (a b : Nat) : Int := if a < b then -1 else if b < a then 1 else 0
def cmpB (a b : List UInt8) : Int := if a < b then -1 else if b < a then 1 else 0
theorem cmpN_eq (a b : List UInt8) : cmpN a b = if cmpI a.length b.length = 0 then cmpB a b else cmpI a.length b.length := by
  unfold cmpN cmpI cmpB
  by_cases h1 : a.length < b.length
  · simp [h1]
  · by_cases h2 : b.length < a.length
    · simp [h1, h2]
    · simp [h1, h2]
theorem bl_iff (a b : ByteArray) : Op.bytesLess a.toList b.toList = true ↔ a.data.toList < b.data.toList := by
  rw [bl_eq, ba_toList, ba_toList, decide_eq_true_eq]
theorem _root_.Go.V.Rd.str {P : Program} {src dst e : TypeId} (hs : P.underlying src = some (.slice e)) (he : P.underlying e = some (.int .u8)) (hd : P.underlying dst = some .string) {w : World} {F : Nat → Prop} {A : Option Addr} {n c : Nat} {bs : List UInt8} (h : Rd w F (.slice A n c) (bys bs)) : (convert src dst (.slice A n c)).run P w = .ok (.string ⟨bs.toArray⟩) w := by
  have hsh := h.shape
  obtain ⟨A', c', hv⟩ := hsh
  injection hv with h1 h2 h3
  subst h2
  cases bs with
  | nil =>
    rw [run_convert_bytes_string w src dst e A _ c hs he hd]
    cases A with
    | none => rfl
    | some a => exact run_bytesToString w a 0 c [] (by have := run_loadCells_list (P := P) w a [] (fun j v hj => by simp at hj); simpa using this)
  | cons b bs =>
    have hsr := h.src
    obtain ⟨hlen, hcell⟩ := hsr
    obtain ⟨g, off, rfl, _⟩ := hcell 0 _ rfl
    refine run_convert_bytes_back w src dst e ⟨g, off, none⟩ c (b :: bs) hs he hd fun j hj => ?_
    obtain ⟨g', off', e2, hc⟩ := hcell j (byteV ((b :: bs)[j])) (by unfold bvs; rw [List.getElem?_map, List.getElem?_eq_getElem hj]; rfl)
    injection e2 with e2
    injection e2 with e3 e4 e5
    rw [add_mk, e3, e4]
    exact hc
set_option maxRecDepth 100000 in
set_option maxHeartbeats 2000000 in
theorem bytesEqual_e (A B : List UInt8) (va vb : Value) (F G : Nat → Prop) (w : World) (ha : Rd w F va (bys A)) (hb : Rd w G vb (bys B)) (hE : A = B) :
    Calls Tryd.prog 27 #[va, vb] w fun e w' => e = .returned (.bool true) ∧ w' = w := by
  subst hE
  obtain ⟨Aa, ca, rfl⟩ := ha.shape
  obtain ⟨Ab, cb, rfl⟩ := hb.shape
  have c1 := ha.str (P := Tryd.prog) (src := 22) (dst := 9) Tryd.underlying22 Tryd.underlying5 Tryd.underlying9
  have c2 := hb.str (P := Tryd.prog) (src := 22) (dst := 9) Tryd.underlying22 Tryd.underlying5 Tryd.underlying9
  clear ha hb
  go_enter Tryd.func27, Tryd.ntmps27
  go_wp2
  go_ret
  exact ⟨by simp, rfl⟩
theorem ext_app (p r : ByteArray) : (p ++ r).extract 0 p.size = p := by
  apply ByteArray.ext
  apply Array.toList_inj.1
  rw [ByteArray.data_extract, ByteArray.data_append]
  have : p.data.toList.length ≤ p.size := by rw [Array.length_toList]; exact Nat.le_refl _
  simp
  exact List.take_of_length_le this
theorem ext_app2 (p r : ByteArray) : (p ++ r).extract p.size (p.size + r.size) = r := by
  apply ByteArray.ext
  apply Array.toList_inj.1
  rw [ByteArray.data_extract, ByteArray.data_append]
  have h1 : p.data.toList.length ≤ p.size := by rw [Array.length_toList]; exact Nat.le_refl _
  have h2 : r.data.toList.length ≤ r.size := by rw [Array.length_toList]; exact Nat.le_refl _
  simp
  rw [List.drop_eq_nil_of_le h1, List.take_of_length_le h2]
  simp
end Go.Proofs.YtijhicfegbaadaaDoor
/- HP: layer 11, pure: a log's files on the disk: what a put, a sync, a deletion make of them. -/
namespace Go.V
open Go.RowKit
/-- the bytes of records, the first of which has number f -/
def recsF : Nat → List (List UInt8) → List UInt8
  | _, [] => []
  | f, t :: ts => recF f t ++ recsF (f + 1) ts
theorem recs_snoc : ∀ (ts : List (List UInt8)) (f : Nat) (t : List UInt8), recsF f (ts ++ [t]) = recsF f ts ++ recF (f + ts.length) t
  | [], f, t => by simp [recsF]
  | s :: ts, f, t => by
    rw [List.cons_append, recsF, recs_snoc ts (f + 1) t, recsF, List.append_assoc]
    congr 3
    simp
    omega
def dotF (p : ByteArray) : ByteArray := p ++ ⟨#[46]⟩
def nameF (p : ByteArray) (n : Nat) : ByteArray := dotF p ++ ⟨(digs n).toArray⟩
theorem ba_size (p q : ByteArray) : (p ++ q).size = p.size + q.size := ByteArray.size_append
theorem name_inj {p : ByteArray} {i j : Nat} (h : nameF p i = nameF p j) : i = j := by
  unfold nameF at h
  have h2 := congrArg (fun b => b.data.toList) h
  simp only [ByteArray.data_append, Array.toList_append] at h2
  exact digs_inj (List.append_cancel_left h2)
theorem name_size (p : ByteArray) (n : Nat) : (nameF p n).size = p.size + 1 + (digs n).length := by
  unfold nameF dotF
  rw [ba_size, ba_size]
  rfl
theorem name_ok {p : ByteArray} (hp : p.size ≤ 8) {n : Nat} (hn : n < 10 ^ 10) : namF (nameF p n) = true := by
  have := digs_len 10 n hn
  unfold namF
  rw [name_size]
  exact decide_eq_true (by omega)
/-- the files of a log: its segments' numbers begin with lo, its records' with f -/
def fileF (p : ByteArray) : Nat → Nat → List (List (List UInt8)) → ByteArray → Option (List UInt8)
  | _, _, [], _ => none
  | lo, f, s :: r, n => if n = nameF p lo then some (recsF f s) else fileF p (lo + 1) (f + s.length) r n
theorem file_some {p : ByteArray} : ∀ (sg : List (List (List UInt8))) (lo f : Nat) {n : ByteArray} {b : List UInt8}, fileF p lo f sg n = some b → ∃ i, i < sg.length ∧ n = nameF p (lo + i)
  | [], _, _, _, _, h => by cases h
  | s :: r, lo, f, n, b, h => by
    rw [fileF] at h
    by_cases hn : n = nameF p lo
    · exact ⟨0, by simp, by rw [hn]; rfl⟩
    · rw [if_neg hn] at h
      obtain ⟨i, hi, e⟩ := file_some r (lo + 1) _ h
      exact ⟨i + 1, by simp; omega, by rw [e]; congr 1; omega⟩
theorem file_at {p : ByteArray} : ∀ (sg : List (List (List UInt8))) (lo f i : Nat) {s : List (List UInt8)}, sg[i]? = some s → fileF p lo f sg (nameF p (lo + i)) = some (recsF (f + (sg.take i).flatten.length) s)
  | [], _, _, _, _, h => by simp at h
  | t :: r, lo, f, 0, s, h => by
    simp at h
    subst h
    rw [Nat.add_zero, fileF, if_pos rfl]
    simp
  | t :: r, lo, f, i + 1, s, h => by
    simp at h
    rw [fileF, if_neg (fun e => by have := name_inj e; omega), show lo + (i + 1) = lo + 1 + i from by omega, file_at r (lo + 1) (f + t.length) i h]
    simp [Nat.add_assoc]
theorem file_none {p : ByteArray} (sg : List (List (List UInt8))) (lo f i : Nat) (h : i < lo ∨ lo + sg.length ≤ i) : fileF p lo f sg (nameF p i) = none := by
  cases hq : fileF p lo f sg (nameF p i) with
  | none => rfl
  | some b =>
    obtain ⟨j, hj, e⟩ := file_some sg lo f hq
    have := name_inj e
    omega
theorem file_snoc {p : ByteArray} : ∀ (a : List (List (List UInt8))) (lo f : Nat) (s : List (List UInt8)) (n : ByteArray), fileF p lo f (a ++ [s]) n = if n = nameF p (lo + a.length) then some (recsF (f + a.flatten.length) s) else fileF p lo f a n
  | [], lo, f, s, n => by simp [fileF]
  | t :: r, lo, f, s, n => by
    rw [List.cons_append, fileF, file_snoc r (lo + 1) (f + t.length) s n, fileF]
    have e : lo + 1 + r.length = lo + (t :: r).length := by simp; omega
    have e2 : f + t.length + r.flatten.length = f + (t :: r).flatten.length := by simp; omega
    rw [e, e2]
    by_cases h1 : n = nameF p lo
    · rw [if_pos h1, if_pos h1, if_neg]
      rw [h1]
      intro e
      have := name_inj e
      simp at this
    · rw [if_neg h1, if_neg h1]
/-- the disk of a log: its files are fl -/
structure PD (D : Dk) (c : Nat) (fl : ByteArray → Option (List UInt8)) : Prop where
  u : uq D.syn
  cm : calm D
  fs : ∀ n, findF (nowF D) n = fl n
  r : 0 ≤ D.room ∧ D.room ≤ 1000000
  t : (tot (nowF D) : Int) ≤ D.room
  sn : D.syn.length ≤ c
  pn : D.pend.length ≤ c
  st : tot D.syn ≤ 1000000
  pt : totA D.pend ≤ 2000 * c
theorem PD.mono {D : Dk} {c c' : Nat} {fl : ByteArray → Option (List UInt8)} (h : PD D c fl) (hc : c ≤ c') : PD D c' fl :=
  ⟨h.u, h.cm, h.fs, h.r, h.t, Nat.le_trans h.sn hc, Nat.le_trans h.pn hc, h.st, by have := h.pt; omega⟩
theorem PD.sm {D : Dk} {c : Nat} {fl : ByteArray → Option (List UInt8)} (h : PD D c fl) (hc : c ≤ 200000) : DkSm D :=
  dk_sm (by unfold mN; have := h.sn; have := h.pn; omega) (by unfold mT; have := h.st; have := h.pt; omega) ⟨h.r.1, by have := h.r.2; omega⟩ (by rw [h.cm.1]; unfold i64R; omega)
theorem PD.start (room : Int) (hr : 0 ≤ room ∧ room ≤ 1000000) (c : Nat) : PD (d0L room) c (fun _ => none) :=
  ⟨List.nodup_nil, ⟨rfl, rfl⟩, fun _ => rfl, hr, by show (tot [] : Int) ≤ room; unfold tot; simp; exact hr.1, Nat.zero_le _, Nat.zero_le _, Nat.zero_le _, Nat.zero_le _⟩
theorem find_mem {l : List Fl} (hu : uq l) {x : ByteArray} {b : List UInt8} (h : (⟨x, b⟩ : Fl) ∈ l) : findF l x = some b := by
  obtain ⟨i, hi, e⟩ := List.mem_iff_getElem.1 h
  exact uq_find hu i ⟨x, b⟩ (by rw [List.getElem?_eq_getElem hi, e])
theorem find_with_same {l : List Fl} (hu : uq l) (x : ByteArray) (b : List UInt8) : findF (withF l x b) x = some b :=
  find_mem (uq_with hu x b) ((with_perm l x b).mem_iff.2 (List.mem_cons_self ..))
theorem find_wo_same : ∀ (l : List Fl) (x : ByteArray), findF (woF l x) x = none
  | [], _ => rfl
  | f :: l, x => by
    rw [wo_cons]
    by_cases h : f.n = x
    · rw [if_pos h]; exact find_wo_same l x
    · rw [if_neg h, findF, if_neg h]; exact find_wo_same l x
theorem push_now (d : Dk) (a : Ac) (h : calm d) : nowF (pushF d a).1 = doneF (nowF d) a := by
  rw [push_calm d a h]
  exact now_push d a
/-- a put: there is no room, and nothing is done, or it stands behind what the file had -/
theorem PD.put {D : Dk} {c : Nat} {fl : ByteArray → Option (List UInt8)} (h : PD D c fl) (a : Ac) (hk : a.k = 0) (hn : namF a.n = true) (hb : a.b.length ≤ 2000) :
    (doF D a = (D, 4) ∧ D.room < (a.b.length : Int) + tot (nowF D)) ∨ ((doF D a).2 = 0 ∧ PD (doF D a).1 (c + 1) (fun n => if n = a.n then some ((fl a.n).getD [] ++ a.b) else fl n)) := by
  have hrm := do_room D a (by omega) (by omega) h.t
  have hcm := do_calm D a h.cm (by omega)
  have huq := do_uq D a h.u
  by_cases hr : D.room < ((a.b.length + tot (nowF D) : Nat) : Int)
  · left
    rw [do_put (.inl hk), h.cm.2, if_neg (by simp), if_neg (by rw [hn]; simp), sz_zero a hk, if_pos hr]
    exact ⟨rfl, by omega⟩
  · right
    have hdo : doF D a = ({ D with pend := D.pend ++ [a] }, 0) := by
      rw [do_put (.inl hk), if_neg (by rw [h.cm.2]; simp), if_neg (by rw [hn]; simp), sz_zero a hk, if_neg hr, push_calm D a h.cm]
    rw [hdo] at hrm hcm huq ⊢
    have hun : uq (nowF D) := uq_now D.pend h.u
    refine ⟨rfl, ⟨huq, hcm, ?_, h.r, hrm.2, by have := h.sn; show D.syn.length ≤ c + 1; omega, by have := h.pn; simp; omega, h.st, ?_⟩⟩
    · intro n
      show findF (nowL D.syn (D.pend ++ [a])) n = _
      rw [now_push]
      unfold doneF
      rw [if_pos hk]
      by_cases e : n = a.n
      · rw [if_pos e, e, find_with_same hun, h.fs]
      · rw [if_neg e, find_with _ _ _ _ e, h.fs]
    · show totA (D.pend ++ [a]) ≤ _
      have e : totA (D.pend ++ [a]) = totA D.pend + a.b.length := by unfold totA; simp
      have := h.pt
      omega
/-- a file that is there is deleted -/
theorem PD.del {D : Dk} {c : Nat} {fl : ByteArray → Option (List UInt8)} (h : PD D c fl) (a : Ac) (hk : a.k = 3) (hn : namF a.n = true) (hb : a.b = []) (hf : (fl a.n).isSome = true) :
    (doF D a).2 = 0 ∧ PD (doF D a).1 (c + 1) (fun n => if n = a.n then none else fl n) := by
  have hrm := do_room D a (by omega) (by omega) h.t
  have hcm := do_calm D a h.cm (by omega)
  have huq := do_uq D a h.u
  have hdo : doF D a = ({ D with pend := D.pend ++ [a] }, 0) := by
    rw [do_find (.inr hk), if_neg (by rw [h.cm.2]; simp), if_neg (by rintro (e | e); rw [hn] at e; cases e; omega), if_neg (by rw [h.fs]; cases hq : fl a.n with | none => rw [hq] at hf; cases hf | some b => simp), push_calm D a h.cm]
  rw [hdo] at hrm hcm huq ⊢
  refine ⟨rfl, ⟨huq, hcm, ?_, h.r, hrm.2, by have := h.sn; show D.syn.length ≤ c + 1; omega, by have := h.pn; simp; omega, h.st, ?_⟩⟩
  · intro n
    show findF (nowL D.syn (D.pend ++ [a])) n = _
    rw [now_push]
    unfold doneF
    rw [if_neg (by omega), if_neg (by omega), if_neg (by omega), if_pos hk]
    by_cases e : n = a.n
    · rw [if_pos e, e, find_wo_same]
    · rw [if_neg e, find_wo _ _ _ e, h.fs]
  · show totA (D.pend ++ [a]) ≤ _
    have e : totA (D.pend ++ [a]) = totA D.pend + a.b.length := by unfold totA; simp
    have := h.pt
    rw [hb] at e
    simp at e
    omega
theorem PD.sync {D : Dk} {c c' : Nat} {fl : ByteArray → Option (List UInt8)} (h : PD D c fl) (a : Ac) (hk : a.k = 4) (hl : (nowF D).length ≤ c') :
    PD (doF D a).1 c' fl := by
  have e : doF D a = ({ D with syn := nowF D, pend := [] }, 0) := by
    unfold doF
    rw [if_pos hk, burn_calm D h.cm]
    simp
  rw [e]
  have e2 : nowF { D with syn := nowF D, pend := [] } = nowF D := rfl
  refine ⟨uq_now D.pend h.u, h.cm, fun n => by rw [e2]; exact h.fs n, h.r, by rw [e2]; exact h.t, hl, Nat.zero_le _, ?_, Nat.zero_le _⟩
  have := h.t
  have := h.r.2
  show tot (nowF D) ≤ 1000000
  omega
theorem find_some_mem : ∀ {l : List Fl} {n : ByteArray}, (findF l n).isSome = true ↔ n ∈ l.map Fl.n
  | [], n => by simp [findF]
  | f :: l, n => by
    rw [findF, List.map_cons, List.mem_cons]
    by_cases h : f.n = n
    · rw [if_pos h]; simp [h]
    · rw [if_neg h, find_some_mem]
      constructor
      · exact .inr
      · rintro (e | e)
        · exact absurd e.symm h
        · exact e
/-- the names on a log's disk -/
theorem PD.names {D : Dk} {c : Nat} {p : ByteArray} {lo f : Nat} {sg : List (List (List UInt8))} (h : PD D c (fileF p lo f sg)) : ((nowF D).map Fl.n).Perm ((List.range' lo sg.length).map (nameF p)) := by
  have hun : uq (nowF D) := uq_now D.pend h.u
  refine (List.perm_ext_iff_of_nodup hun ?_).2 fun n => ?_
  · unfold List.Nodup
    rw [List.pairwise_map]
    exact (List.pairwise_lt_range' (s := lo) (n := sg.length)).imp fun {a b} hab e => by have := name_inj e; omega
  · rw [← find_some_mem, h.fs, List.mem_map]
    constructor
    · intro hs
      obtain ⟨b, hb⟩ := Option.isSome_iff_exists.1 hs
      obtain ⟨i, hi, e⟩ := file_some sg lo f hb
      exact ⟨lo + i, by rw [List.mem_range']; exact ⟨i, hi, by omega⟩, e.symm⟩
    · rintro ⟨i, hi, rfl⟩
      rw [List.mem_range'] at hi
      obtain ⟨j, hj, e⟩ := hi
      rw [show i = lo + j from by omega, file_at sg lo f j (List.getElem?_eq_getElem hj)]
      rfl
theorem PD.count {D : Dk} {c : Nat} {p : ByteArray} {lo f : Nat} {sg : List (List (List UInt8))} (h : PD D c (fileF p lo f sg)) : (nowF D).length = sg.length := by
  have := h.names.length_eq
  simpa using this
/-- how many bytes the last segment has -/
def lastZ : Nat → List (List (List UInt8)) → Nat
  | _, [] => 0
  | f, [s] => (recsF f s).length
  | f, s :: t :: r => lastZ (f + s.length) (t :: r)
theorem lastZ_snoc : ∀ (a : List (List (List UInt8))) (f : Nat) (s : List (List UInt8)), lastZ f (a ++ [s]) = (recsF (f + a.flatten.length) s).length
  | [], f, s => by simp [lastZ]
  | [t], f, s => by simp [lastZ]
  | t :: u :: r, f, s => by
    show lastZ (f + t.length) ((u :: r) ++ [s]) = _
    rw [lastZ_snoc (u :: r) (f + t.length) s]
    congr 2
    simp
    omega
end Go.V
