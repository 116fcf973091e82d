/- H1: several texts in one (H0 H1 HP HB). -/
import Derived.Test.YtcechioeolokcaaGreatDoorSM
import Derived.Test.YtcechioeolokcaaGreatDoorDU
import Derived.Test.YtcechioeolokcaaGreatDoorM1
import Derived.Sort.LotA
import Derived.Test.YtcechioeolokcaaGreatDoorDO
import Derived.Lib.OthersKept
import Derived.Laws.RangeAny
import Derived.Deep.DeepCutAuto
import Derived.WalkSpells
import Derived.Laws.IdiomStrings
import Derived.Test.YtcechioeolokcaaGreatDoorEP
import Derived.RangeFuncFrom
import Derived.RangeFuncNested
import Derived.RangeFuncBound
import Derived.RangeFuncCalls
import Derived.RangeFuncLeaves
import Derived.RangeFuncBox
import Derived.Shelf.Abstract
import Derived.Shelf.RegionOpen
import Derived.WalkKit
import Derived.OwnWalkIn
import Derived.TacticsInMore
import Derived.LoopNIn
import Derived.LoopIn
/- H0: layer 11, pure: numbers in digits and their order; a record's bytes; the files of a log. -/
namespace Go.V
open Go.RowKit
/-- may a text be a log's prefix? -/
def okP (p : ByteArray) : Bool := decide (1 ≤ p.size) && decide (p.size ≤ 8) && p.toList.all fun c => decide (97 ≤ c.toNat) && decide (c.toNat ≤ 122)
/-- a record's bytes -/
def recF (n : Nat) (t : List UInt8) : List UInt8 := (packed n ++ (packed t.length ++ t)) ++ (shaF (packed n ++ (packed t.length ++ t))).take 8
def d0L (room : Int) : Dk := ⟨room, [], [], -1, false⟩
/-- a number's digits, without noughts ahead; of 0: none -/
def digs (n : Nat) : List UInt8 := if n = 0 then [] else digs (n / 10) ++ [UInt8.ofNat (48 + n % 10)]
theorem digs_zero : digs 0 = [] := by unfold digs; rfl
theorem digs_pos {n : Nat} (h : n ≠ 0) : digs n = digs (n / 10) ++ [UInt8.ofNat (48 + n % 10)] := by
  rw [digs, if_neg h]
def incR : List UInt8 → List UInt8
  | [] => [49]
  | d :: r => if d < 57 then (d + 1) :: r else 48 :: incR r
def incF (l : List UInt8) : List UInt8 := (incR l.reverse).reverse
theorem dig_nat {k : Nat} (h : k < 10) : (UInt8.ofNat (48 + k)).toNat = 48 + k := by
  rw [UInt8.toNat_ofNat']
  exact Nat.mod_eq_of_lt (by omega)
theorem dig_lt {k : Nat} (h : k < 10) : UInt8.ofNat (48 + k) < 57 ↔ k < 9 := by
  rw [UInt8.lt_iff_toNat_lt, dig_nat h]
  show _ < 57 ↔ _
  omega
theorem dig_inc {k : Nat} (h : k < 9) : UInt8.ofNat (48 + k) + 1 = UInt8.ofNat (48 + (k + 1)) := by
  apply UInt8.toNat_inj.1
  rw [UInt8.toNat_add, dig_nat (by omega), dig_nat (by omega)]
  show (48 + k + 1) % 256 = _
  omega
theorem inc_digs : ∀ n : Nat, incF (digs n) = digs (n + 1) := by
  intro n
  induction n using Nat.strongRecOn with
  | ind n ih =>
    by_cases h0 : n = 0
    · subst h0
      rw [digs_zero, digs_pos (by omega)]
      rw [show (0 + 1) / 10 = 0 from rfl, digs_zero]
      rfl
    · rw [digs_pos h0, digs_pos (n := n + 1) (by omega)]
      unfold incF
      rw [List.reverse_append]
      show (incR (_ :: (digs (n / 10)).reverse)).reverse = _
      rw [incR]
      by_cases h9 : n % 10 < 9
      · rw [if_pos ((dig_lt (by omega)).2 h9), dig_inc h9, show (n + 1) / 10 = n / 10 from by omega, show (n + 1) % 10 = n % 10 + 1 from by omega]
        simp
      · rw [if_neg (fun h => h9 ((dig_lt (by omega)).1 h)), show (n + 1) / 10 = n / 10 + 1 from by omega, show (n + 1) % 10 = 0 from by omega, ← ih (n / 10) (by omega)]
        unfold incF
        simp
theorem digs_len : ∀ (k n : Nat), n < 10 ^ k → (digs n).length ≤ k
  | 0, n, h => by
    have : n = 0 := by simp at h; exact h
    subst this
    rw [digs_zero]
    exact Nat.le_refl _
  | k + 1, n, h => by
    by_cases h0 : n = 0
    · subst h0; rw [digs_zero]; exact Nat.zero_le _
    · rw [digs_pos h0, List.length_append, List.length_singleton]
      have := digs_len k (n / 10) (by rw [Nat.pow_succ] at h; omega)
      omega
/-- is it a segment's number, in digits? -/
def numB (s : List UInt8) : Bool := (s != []) && (s.headD 0 != 48) && s.all fun c => decide (48 ≤ c.toNat) && decide (c.toNat ≤ 57)
theorem digs_all : ∀ n : Nat, (digs n).all (fun c => decide (48 ≤ c.toNat) && decide (c.toNat ≤ 57)) = true := by
  intro n
  induction n using Nat.strongRecOn with
  | ind n ih =>
    by_cases h0 : n = 0
    · subst h0; rw [digs_zero]; rfl
    · rw [digs_pos h0, List.all_append, ih (n / 10) (by omega)]
      simp only [List.all_cons, List.all_nil, Bool.and_true, Bool.true_and, dig_nat (Nat.mod_lt n (by omega : 10 > 0)), Bool.and_eq_true, decide_eq_true_eq]
      omega
theorem digs_head : ∀ n : Nat, n ≠ 0 → digs n ≠ [] ∧ (digs n).headD 0 ≠ 48 := by
  intro n
  induction n using Nat.strongRecOn with
  | ind n ih =>
    intro h0
    rw [digs_pos h0]
    by_cases h1 : n / 10 = 0
    · rw [h1, digs_zero]
      refine ⟨by simp, ?_⟩
      show UInt8.ofNat (48 + n % 10) ≠ 48
      intro h
      have := congrArg UInt8.toNat h
      rw [dig_nat (Nat.mod_lt n (by omega))] at this
      have h2 : (48 : UInt8).toNat = 48 := rfl
      rw [h2] at this
      omega
    · obtain ⟨h2, h3⟩ := ih (n / 10) (by omega) h1
      refine ⟨by simp, ?_⟩
      cases hd : digs (n / 10) with
      | nil => exact absurd hd h2
      | cons c r =>
        rw [hd] at h3
        exact h3
theorem digs_num {n : Nat} (h : n ≠ 0) : numB (digs n) = true := by
  obtain ⟨h1, h2⟩ := digs_head n h
  unfold numB
  rw [digs_all n]
  simp only [Bool.and_true, Bool.and_eq_true, bne_iff_ne, ne_eq]
  exact ⟨h1, h2⟩
/-- the order of numbers in digits -/
def cmpN (a b : List UInt8) : Int := if a.length < b.length then -1 else if b.length < a.length then 1 else if a < b then -1 else if b < a then 1 else 0
def lnB (a b : List UInt8) : Bool := decide (cmpN a b < 0)
theorem ltN (a b : List UInt8) : lnB a b = decide (a.length < b.length ∨ (a.length = b.length ∧ a < b)) := by
  unfold lnB cmpN
  by_cases h1 : a.length < b.length
  · simp [h1]
  · by_cases h2 : b.length < a.length
    · have h3 : ¬ a.length = b.length := by omega
      simp [h1, h2, h3]
    · have h3 : a.length = b.length := by omega
      by_cases h4 : a < b
      · simp [h3, h4]
      · by_cases h5 : b < a <;> simp [h3, h4, h5]
theorem swoN : Go.Sort.SWO lnB where
  irrefl x := by rw [ltN]; simp [List.lt_irrefl]
  trans x y z h1 h2 := by
    rw [ltN, decide_eq_true_eq] at *
    rcases h1 with h1 | ⟨e1, h1⟩
    · left; rcases h2 with h2 | ⟨e2, h2⟩ <;> omega
    · rcases h2 with h2 | ⟨e2, h2⟩
      · left; omega
      · exact .inr ⟨by omega, List.lt_trans h1 h2⟩
  ntrans x y z h1 h2 := by
    rw [ltN, decide_eq_false_iff_not] at *
    rintro (h | ⟨e, h⟩)
    · rcases Nat.lt_or_ge x.length y.length with h3 | h3
      · exact h1 (.inl h3)
      · exact h2 (.inl (by omega))
    · by_cases h3 : x.length < y.length
      · exact h1 (.inl h3)
      · by_cases h4 : y.length < z.length
        · exact h2 (.inl h4)
        · have e1 : x.length = y.length := by omega
          have e2 : y.length = z.length := by omega
          have n1 : ¬ x < y := fun h => h1 (.inr ⟨e1, h⟩)
          have n2 : ¬ y < z := fun h => h2 (.inr ⟨e2, h⟩)
          have := List.le_trans (List.not_lt.1 n2) (List.not_lt.1 n1)
          exact (List.not_lt.2 this) h
theorem antiN (x y : List UInt8) (h1 : lnB x y = false) (h2 : lnB y x = false) : x = y := by
  rw [ltN, decide_eq_false_iff_not] at *
  have e : x.length = y.length := by
    rcases Nat.lt_trichotomy x.length y.length with h | h | h
    · exact absurd (.inl h) h1
    · exact h
    · exact absurd (.inl h) h2
  exact List.le_antisymm (List.not_lt.1 (fun h => h2 (.inr ⟨e.symm, h⟩))) (List.not_lt.1 (fun h => h1 (.inr ⟨e, h⟩)))
theorem lt_app_same : ∀ (a : List UInt8) {x y : List UInt8}, x < y → a ++ x < a ++ y
  | [], _, _, h => h
  | c :: a, x, y, h => by
    rw [List.cons_append, List.cons_append, List.cons_lt_cons_iff]
    exact .inr ⟨rfl, lt_app_same a h⟩
theorem lt_app_len : ∀ {a b : List UInt8} (x y : List UInt8), a.length = b.length → a < b → a ++ x < b ++ y
  | [], [], _, _, _, h => absurd h (List.lt_irrefl _)
  | [], _ :: _, _, _, h, _ => by simp at h
  | _ :: _, [], _, _, h, _ => by simp at h
  | c :: a, d :: b, x, y, hl, h => by
    rw [List.cons_lt_cons_iff] at h
    rw [List.cons_append, List.cons_append, List.cons_lt_cons_iff]
    rcases h with h | ⟨e, h⟩
    · exact .inl h
    · exact .inr ⟨e, lt_app_len x y (by simpa using hl) h⟩
theorem lt_succN : ∀ n : Nat, lnB (digs n) (digs (n + 1)) = true := by
  intro n
  induction n using Nat.strongRecOn with
  | ind n ih =>
    rw [ltN, decide_eq_true_eq]
    by_cases h0 : n = 0
    · subst h0
      left
      rw [digs_zero, digs_pos (by omega)]
      simp
    · rw [digs_pos h0, digs_pos (n := n + 1) (by omega)]
      by_cases h9 : n % 10 < 9
      · right
        rw [show (n + 1) / 10 = n / 10 from by omega, show (n + 1) % 10 = n % 10 + 1 from by omega]
        refine ⟨by simp, lt_app_same _ ?_⟩
        rw [List.cons_lt_cons_iff]
        left
        rw [UInt8.lt_iff_toNat_lt, dig_nat (by omega), dig_nat (by omega)]
        omega
      · rw [show (n + 1) / 10 = n / 10 + 1 from by omega]
        have h := ih (n / 10) (by omega)
        rw [ltN, decide_eq_true_eq] at h
        rcases h with h | ⟨e, h⟩
        · left; simp; omega
        · right
          exact ⟨by simp [e], lt_app_len _ _ e h⟩
theorem lt_addN (n : Nat) : ∀ k : Nat, lnB (digs n) (digs (n + (k + 1))) = true
  | 0 => lt_succN n
  | k + 1 => swoN.trans _ _ _ (lt_addN n k) (lt_succN (n + (k + 1)))
theorem digs_lt {m n : Nat} (h : m < n) : lnB (digs m) (digs n) = true := by
  have := lt_addN m (n - m - 1)
  rwa [show m + (n - m - 1 + 1) = n from by omega] at this
theorem digs_inj {m n : Nat} (h : digs m = digs n) : m = n := by
  rcases Nat.lt_trichotomy m n with h1 | h1 | h1
  · have := digs_lt h1
    rw [h, swoN.irrefl] at this
    cases this
  · exact h1
  · have := digs_lt h1
    rw [h, swoN.irrefl] at this
    cases this
/-- the numbers lo, lo + 1, .. in digits -/
def nums (lo : Nat) (k : Nat) : List (List UInt8) := (List.range' lo k).map digs
theorem nums_sort {lo k : Nat} {d : List (List UInt8)} (h : d.Perm (nums lo k)) : (d.mergeSort fun x y => !lnB y x) = nums lo k := by
  have hp : (nums lo k).Pairwise fun x y => (!lnB y x) = true := by
    unfold nums
    rw [List.pairwise_map]
    refine (List.pairwise_lt_range' (s := lo) (n := k)).imp ?_
    intro a b hab
    have h1 := digs_lt hab
    cases h2 : lnB (digs b) (digs a) with
    | false => rfl
    | true =>
      have := swoN.trans _ _ _ h1 h2
      rw [swoN.irrefl] at this
      cases this
  refine List.Perm.eq_of_pairwise (le := fun x y => (!lnB y x) = true) ?_ ?_ hp ((List.mergeSort_perm _ _).trans h)
  · intro a b _ _ h1 h2
    simp only [Bool.not_eq_true'] at h1 h2
    exact antiN _ _ h2 h1
  · refine List.pairwise_mergeSort ?_ ?_ _
    · intro a b c h1 h2
      simp only [Bool.not_eq_true'] at h1 h2 ⊢
      exact swoN.ntrans _ _ _ h2 h1
    · intro a b
      cases h1 : lnB b a with
      | false => rfl
      | true =>
        cases h2 : lnB a b with
        | false => rfl
        | true =>
          have := swoN.trans _ _ _ h1 h2
          rw [swoN.irrefl] at this
          cases this
end Go.V
/- H1: layer 11: what only reads: signs of a string, numbers compared, a string without its prefix, a name. -/
namespace Go.V
open Go.RowKit
def fromF (a b : Nat) (s : ByteArray) : Bool := s.toList.all fun c => decide (a ≤ c.toNat) && decide (c.toNat ≤ b)
theorem ba_toList (s : ByteArray) : s.toList = s.data.toList := by
  have h : ∀ (n i : Nat) (r : List UInt8), s.size - i = n → ByteArray.toList.loop s i r = r.reverse ++ s.data.toList.drop i := by
    intro n
    induction n with
    | zero =>
      intro i r hn
      rw [ByteArray.toList.loop, if_neg (by omega), List.drop_eq_nil_of_le (by show s.data.toList.length ≤ i; rw [Array.length_toList]; show s.size ≤ i; omega)]
      simp
    | succ n ih =>
      intro i r hn
      have hi : i < s.size := by omega
      rw [ByteArray.toList.loop, if_pos hi, ih (i + 1) _ (by omega)]
      have h2 : i < s.data.toList.length := by rw [Array.length_toList]; exact hi
      rw [List.drop_eq_getElem_cons h2]
      simp [ByteArray.get!, hi]
  have := h s.size 0 [] (by omega)
  simpa [ByteArray.toList] using this
theorem from_step {a b : Nat} {s : ByteArray} {i : Nat} (h : i < s.size) (hp : (s.data.toList.take i).all (fun c => decide (a ≤ c.toNat) && decide (c.toNat ≤ b)) = true) (h1 : a ≤ (s[i]'h).toNat) (h2 : (s[i]'h).toNat ≤ b) : (s.data.toList.take (i + 1)).all (fun c => decide (a ≤ c.toNat) && decide (c.toNat ≤ b)) = true := by
  have hl : i < s.data.toList.length := by rw [Array.length_toList]; exact h
  rw [List.take_succ_eq_append_getElem hl, List.all_append, hp]
  have e : s.data.toList[i] = s[i]'h := by rw [Array.getElem_toList]; rfl
  simp [e, h1, h2]
theorem from_bad {a b : Nat} {s : ByteArray} {i : Nat} (h : i < s.size) (h1 : ¬ (a ≤ (s[i]'h).toNat ∧ (s[i]'h).toNat ≤ b)) : fromF a b s = false := by
  unfold fromF
  rw [ba_toList]
  have hl : i < s.data.toList.length := by rw [Array.length_toList]; exact h
  have e : s.data.toList[i] = s[i]'h := by rw [Array.getElem_toList]; rfl
  rw [List.all_eq_false]
  refine ⟨s.data.toList[i], List.getElem_mem hl, ?_⟩
  rw [e]
  simp only [Bool.and_eq_true, decide_eq_true_eq]
  exact h1
theorem from_end {a b : Nat} {s : ByteArray} (hp : (s.data.toList.take s.size).all (fun c => decide (a ≤ c.toNat) && decide (c.toNat ≤ b)) = true) : fromF a b s = true := by
  unfold fromF
  rw [ba_toList]
  rwa [List.take_of_length_le (by rw [Array.length_toList]; exact Nat.le_refl _)] at hp
end Go.V
namespace Go.Proofs.YtcechioeolokcaaGreatDoor
open Go.RowKit Go.V
set_option maxRecDepth 100000 in
set_option maxHeartbeats 2000000 in
theorem allFrom_e (a b : Nat) (s : ByteArray) (w : World) (ha : a ≤ b) (hb : b < 128) (_hs : s.size ≤ maxLen) :
    Calls Tryz.prog 29 #[.int .i32 a, .int .i32 b, .string s] w fun e w' => e = .returned (.bool (fromF a b s)) ∧ Below w.heap.size w w' := by
  obtain ⟨x, hx⟩ : ∃ x, x = fromF a b s := ⟨_, rfl⟩
  rw [← hx]
  have Hx := hid hx
  clear hx
  go_enter Tryz.func29, Tryz.ntmps29
  go_wp2
  go_loopw [] (fun wr => ∃ pos : Nat, pos ≤ s.size ∧ wr.heap[w.heap.size]? = some (.stringIter s pos) ∧ Below w.heap.size w wr ∧ Hid ((s.data.toList.take pos).all (fun c => decide (a ≤ c.toNat) && decide (c.toNat ≤ b)) = true)) (fun wr => s.size - wr.iterPos w.heap.size)
  case atStart =>
    exact ⟨0, Nat.zero_le _, World.iter_heap w s 0, (Below.refl _ w).alloc (Nat.le_refl _) _, by show _ = _; rfl⟩
  case round =>
    obtain ⟨pos, hps, hit, hbw, hall⟩ := hrel
    have hsz : w.heap.size < wr.heap.size := (Array.getElem?_eq_some_iff.1 hit).1
    by_cases hp : pos < s.size
    · have hnx : ∀ ty, (Instr.next (.pointer (some ⟨w.heap.size, 0, none⟩)) true ty).run Tryz.prog wr = _ := fun ty => Lib.run_next_any_at wr w.heap.size s pos ty hit hp
      have hbw2 := Lib.below_iterAt hbw (k := w.heap.size) (Nat.le_refl _) s (pos + (Utf8.decode s pos).2)
      have hit2 := Lib.iterAt_heap wr w.heap.size s pos (pos + (Utf8.decode s pos).2) hit
      by_cases h128 : (s[pos]'hp).toNat < 128
      · have hd := decode_ascii s pos hp h128
        rw [hd] at hnx hbw2 hit2
        dsimp only at hnx hbw2 hit2
        obtain ⟨c, hc⟩ : ∃ c, c = (s[pos]'hp).toNat := ⟨_, rfl⟩
        rw [← hc] at hnx
        have Hc := hid hc
        clear hd h128 hc
        by_cases h1 : a ≤ c
        · have d1 : decide (c < a) = false := decide_eq_false (by omega)
          by_cases h2 : c ≤ b
          · have d2 : decide (b < c) = false := decide_eq_false (by omega)
            have Hn := hid (from_step (a := a) (b := b) hp hall.out (by rw [← Hc.out]; exact h1) (by rw [← Hc.out]; exact h2))
            clear hall h1 h2
            go_wp2
            go_roundw
            case rel => exact ⟨pos + 1, by omega, hit2, hbw2, Hn⟩
            case measure => simp only [World.iterPos, hit2, hit]; omega
          · have d2 : decide (b < c) = true := decide_eq_true (by omega)
            have Hr : Hid (x = false) := by show _ = _; rw [Hx.out]; exact from_bad hp (by rw [← Hc.out]; omega)
            clear hall h1 h2
            go_wp2
            go_ret
            exact ⟨(by rw [Hr.out]; try rfl), hbw2⟩
        · have d1 : decide (c < a) = true := decide_eq_true (by omega)
          have Hr : Hid (x = false) := by show _ = _; rw [Hx.out]; exact from_bad hp (by rw [← Hc.out]; omega)
          clear hall h1
          go_wp2
          go_ret
          exact ⟨(by rw [Hr.out]; try rfl), hbw2⟩
      · obtain ⟨hd1, hd2⟩ := decode_high s pos hp (by omega)
        have hle := decode_le s pos
        have Hr : Hid (x = false) := by show _ = _; rw [Hx.out]; exact from_bad hp (by omega)
        obtain ⟨c, hc⟩ : ∃ c, c = (Utf8.decode s pos).1 := ⟨_, rfl⟩
        rw [← hc] at hnx hd1 hle
        clear hc
        have d1 : decide (c < a) = false := decide_eq_false (by omega)
        have d2 : decide (b < c) = true := decide_eq_true (by omega)
        clear hall h128 hd2
        go_wp2
        go_ret
        exact ⟨(by rw [Hr.out]; try rfl), hbw2⟩
    · have hnx : ∀ ty, (Instr.next (.pointer (some ⟨w.heap.size, 0, none⟩)) true ty).run Tryz.prog wr = _ := fun ty => Lib.run_next_end_at wr w.heap.size s pos ty hit hp
      have Hr : Hid (x = true) := by
        show _ = _
        rw [Hx.out]
        have e : pos = s.size := by omega
        have h := hall.out
        rw [e] at h
        exact from_end h
      clear hall
      go_wp2
      go_ret
      exact ⟨(by rw [Hr.out]; try rfl), hbw⟩
theorem okP_eq (p : ByteArray) : okP p = (decide (1 ≤ p.size) && decide (p.size ≤ 8) && fromF 97 122 p) := rfl
set_option maxRecDepth 100000 in
set_option maxHeartbeats 2000000 in
theorem isPrefix_e (s : ByteArray) (w : World) (hs : s.size ≤ maxLen) :
    Calls Tryz.prog 17 #[.string s] w fun e w' => e = .returned (.bool (okP s)) ∧ Below w.heap.size w w' := by
  have hps : s.size ≤ 9223372036854775807 := by simp [maxLen] at hs; omega
  obtain ⟨x, hx⟩ : ∃ x, x = okP s := ⟨_, rfl⟩
  rw [← hx]
  rw [okP_eq] at hx
  by_cases h1 : 1 ≤ s.size
  · have d1 : decide ((0 : Int) < (s.size : Int)) = true := decide_eq_true (by omega)
    rw [decide_eq_true h1] at hx
    by_cases h2 : s.size ≤ 8
    · have d2 : decide ((s.size : Int) ≤ 8) = true := decide_eq_true (by omega)
      rw [decide_eq_true h2] at hx
      have Hx := hid hx
      clear hx
      go_enter Tryz.func17, Tryz.ntmps17
      go_wp2_with (fail)
      refine (allFrom_e 97 122 s _ (by omega) (by omega) hs).mono ?_
      rintro e w1 ⟨rfl, hB⟩
      go_wp2
      go_ret
      exact ⟨(by rw [Hx.out]; try rfl), hB⟩
    · have d2 : decide ((s.size : Int) ≤ 8) = false := decide_eq_false (by omega)
      rw [decide_eq_false h2] at hx
      have Hx : Hid (x = false) := hx
      clear hx
      go_enter Tryz.func17, Tryz.ntmps17
      go_wp2
      go_ret
      exact ⟨(by rw [Hx.out]; try rfl), Below.refl _ _⟩
  · have d1 : decide ((0 : Int) < (s.size : Int)) = false := decide_eq_false (by omega)
    rw [decide_eq_false h1] at hx
    have Hx : Hid (x = false) := hx
    clear hx
    go_enter Tryz.func17, Tryz.ntmps17
    go_wp2
    go_ret
    exact ⟨(by rw [Hx.out]; try rfl), Below.refl _ _⟩
theorem numB_nil {s : ByteArray} (h : s.toList = []) : numB s.data.toList = false := by
  rw [ba_toList] at h
  rw [h]
  rfl
theorem numB_eq {s : ByteArray} (h : 0 < s.size) : numB s.data.toList = (((s[0]'h) != 48) && fromF 48 57 s) := by
  unfold numB fromF
  rw [ba_toList]
  have hl : 0 < s.data.toList.length := by rw [Array.length_toList]; exact h
  have e : s.data.toList[0] = s[0]'h := by rw [Array.getElem_toList]; rfl
  rw [← e]
  generalize s.data.toList = l at hl
  cases l with
  | nil => cases hl
  | cons c r => rfl
set_option maxRecDepth 100000 in
set_option maxHeartbeats 2000000 in
theorem isNumber_e (s : ByteArray) (w : World) (hs : s.size ≤ maxLen) :
    Calls Tryz.prog 39 #[.string s] w fun e w' => e = .returned (.bool (numB s.data.toList)) ∧ Below w.heap.size w w' := by
  obtain ⟨x, hx⟩ : ∃ x, x = numB s.data.toList := ⟨_, rfl⟩
  rw [← hx]
  by_cases h0 : s.toList = []
  · rw [numB_nil h0] at hx
    have Hx : Hid (x = false) := hx
    clear hx
    go_enter Tryz.func39, Tryz.ntmps39
    go_wp2
    go_ret
    exact ⟨(by rw [Hx.out]; try rfl), Below.refl _ _⟩
  · have hsz : 0 < s.size := by
      rcases Nat.eq_zero_or_pos s.size with h | h
      · exact absurd (by rw [ba_toList]; exact List.eq_nil_of_length_eq_zero (by rw [Array.length_toList]; exact h)) h0
      · exact h
    rw [numB_eq hsz] at hx
    by_cases h48 : s[0]'hsz = 48
    · rw [h48] at hx
      have n48 : (s[0]'hsz).toNat = 48 := by rw [h48]; rfl
      have Hx : Hid (x = false) := hx
      clear hx h48
      go_enter Tryz.func39, Tryz.ntmps39
      go_wp2
      go_ret
      exact ⟨(by rw [Hx.out]; try rfl), Below.refl _ _⟩
    · rw [show (s[0]'hsz != 48) = true from by rw [bne_iff_ne]; exact h48] at hx
      have n48 : ¬ (s[0]'hsz).toNat = 48 := by
        intro h
        exact h48 (UInt8.toNat_inj.1 h)
      have Hx := hid hx
      clear hx h48
      go_enter Tryz.func39, Tryz.ntmps39
      go_wp2_with (fail)
      refine (allFrom_e 48 57 s _ (by omega) (by omega) hs).mono ?_
      rintro e w1 ⟨rfl, hB⟩
      go_wp2
      go_ret
      refine ⟨?_, hB⟩
      rw [Hx.out]
      show Ending.returned (.bool (!s.toList.isEmpty && ((s[0]'hsz).toNat : Int) != 48 && fromF 48 57 s)) = _
      rw [show s.toList.isEmpty = false from by cases h : s.toList with | nil => exact absurd h h0 | cons => rfl, show (((s[0]'hsz).toNat : Int) != 48) = true from by rw [bne_iff_ne]; omega]
      rfl
set_option maxRecDepth 100000 in
theorem mayBegin_e (n : Nat) (w : World) (h1 : 1 ≤ n) (h2 : n ≤ 1000000000) :
    Calls Tryz.prog 50 #[.int .u64 n] w fun e w' => e = .returned (.bool true) ∧ w' = w := by
  have b1 : ((n : Int) != 0) = true := by rw [bne_iff_ne]; omega
  have b2 : ((n : Int) != 18446744073709551615) = true := by rw [bne_iff_ne]; omega
  go_enter Tryz.func50, Tryz.ntmps50
  go_wp2
  go_ret
  exact ⟨rfl, rfl⟩
set_option maxRecDepth 100000 in
set_option maxHeartbeats 2000000 in
theorem isNaN_e (s : ByteArray) (w : World) : Calls Tryz.prog 64 #[.string s] w fun e w' => e = .returned (.bool false) ∧ w' = w := by
  go_enter Tryz.func64, Tryz.ntmps64
  go_wp2
  go_ret
  exact ⟨rfl, rfl⟩
set_option maxRecDepth 100000 in
theorem isNaNi_e (s : Int) (w : World) : Calls Tryz.prog 63 #[.int .i64 s] w fun e w' => e = .returned (.bool false) ∧ w' = w := by
  go_enter Tryz.func63, Tryz.ntmps63
  go_wp2
  go_ret
  exact ⟨rfl, rfl⟩
def cmpI (a b : Nat) : Int := if a < b then -1 else if b < a then 1 else 0
def cmpB (a b : List UInt8) : Int := if a < b then -1 else if b < a then 1 else 0
theorem cmpN_eq (a b : List UInt8) : cmpN a b = if cmpI a.length b.length = 0 then cmpB a b else cmpI a.length b.length := by
  unfold cmpN cmpI cmpB
  by_cases h1 : a.length < b.length
  · simp [h1]
  · by_cases h2 : b.length < a.length
    · simp [h1, h2]
    · simp [h1, h2]
set_option maxRecDepth 100000 in
set_option maxHeartbeats 2000000 in
theorem cmpi_e (a b : Nat) (w : World) : Calls Tryz.prog 43 #[.int .i64 a, .int .i64 b] w fun e w' => e = .returned (.int .i64 (cmpI a b)) ∧ w' = w := by
  obtain ⟨x, hx⟩ : ∃ x, x = cmpI a b := ⟨_, rfl⟩
  rw [← hx]
  have Hx := hid hx
  clear hx
  by_cases h1 : a < b
  · have Hr : Hid (x = -1) := by show _ = _; rw [Hx.out]; unfold cmpI; rw [if_pos h1]
    go_enter Tryz.func43, Tryz.ntmps43
    go_wp2_with (fail)
    refine (isNaNi_e _ _).mono ?_
    rintro e w1 ⟨rfl, rfl⟩
    go_wp2_with (fail)
    refine (isNaNi_e _ _).mono ?_
    rintro e w1 ⟨rfl, rfl⟩
    go_wp2
    go_ret
    exact ⟨by rw [Hr.out]; try rfl, rfl⟩
  · by_cases h2 : b < a
    · have Hr : Hid (x = 1) := by show _ = _; rw [Hx.out]; unfold cmpI; rw [if_neg h1, if_pos h2]
      go_enter Tryz.func43, Tryz.ntmps43
      go_wp2_with (fail)
      refine (isNaNi_e _ _).mono ?_
      rintro e w1 ⟨rfl, rfl⟩
      go_wp2_with (fail)
      refine (isNaNi_e _ _).mono ?_
      rintro e w1 ⟨rfl, rfl⟩
      go_wp2
      go_ret
      exact ⟨by rw [Hr.out]; try rfl, rfl⟩
    · have Hr : Hid (x = 0) := by show _ = _; rw [Hx.out]; unfold cmpI; rw [if_neg h1, if_neg h2]
      go_enter Tryz.func43, Tryz.ntmps43
      go_wp2_with (fail)
      refine (isNaNi_e _ _).mono ?_
      rintro e w1 ⟨rfl, rfl⟩
      go_wp2_with (fail)
      refine (isNaNi_e _ _).mono ?_
      rintro e w1 ⟨rfl, rfl⟩
      go_wp2
      go_ret
      exact ⟨by rw [Hr.out]; try rfl, rfl⟩
theorem bl_iff (a b : ByteArray) : Op.bytesLess a.toList b.toList = true ↔ a.data.toList < b.data.toList := by
  rw [bl_eq, ba_toList, ba_toList, decide_eq_true_eq]
set_option maxRecDepth 100000 in
set_option maxHeartbeats 2000000 in
theorem cmps_e (a b : ByteArray) (w : World) : Calls Tryz.prog 44 #[.string a, .string b] w fun e w' => e = .returned (.int .i64 (cmpB a.data.toList b.data.toList)) ∧ w' = w := by
  obtain ⟨x, hx⟩ : ∃ x, x = cmpB a.data.toList b.data.toList := ⟨_, rfl⟩
  rw [← hx]
  have Hx := hid hx
  clear hx
  by_cases h1 : Op.bytesLess a.toList b.toList = true
  · have Hr : Hid (x = -1) := by show _ = _; rw [Hx.out]; unfold cmpB; rw [if_pos ((bl_iff a b).1 h1)]
    go_enter Tryz.func44, Tryz.ntmps44
    go_wp2_with (fail)
    refine (isNaN_e _ _).mono ?_
    rintro e w1 ⟨rfl, rfl⟩
    go_wp2_with (fail)
    refine (isNaN_e _ _).mono ?_
    rintro e w1 ⟨rfl, rfl⟩
    go_wp2
    go_ret
    exact ⟨by rw [Hr.out]; try rfl, rfl⟩
  · by_cases h2 : Op.bytesLess b.toList a.toList = true
    · have hne : (a.toList == b.toList) = false := by
        rw [beq_eq_false_iff_ne]
        intro e
        rw [e] at h2
        exact h1 (by rw [e]; exact h2)
      have Hr : Hid (x = 1) := by show _ = _; rw [Hx.out]; unfold cmpB; rw [if_neg (fun h => h1 ((bl_iff a b).2 h)), if_pos ((bl_iff b a).1 h2)]
      go_enter Tryz.func44, Tryz.ntmps44
      go_wp2_with (fail)
      refine (isNaN_e _ _).mono ?_
      rintro e w1 ⟨rfl, rfl⟩
      go_wp2_with (fail)
      refine (isNaN_e _ _).mono ?_
      rintro e w1 ⟨rfl, rfl⟩
      go_wp2
      go_ret
      exact ⟨by rw [Hr.out]; try rfl, rfl⟩
    · have heq : (a.toList == b.toList) = true := by
        rw [beq_iff_eq, ba_toList, ba_toList]
        exact List.le_antisymm (List.not_lt.1 (fun h => h2 ((bl_iff b a).2 h))) (List.not_lt.1 (fun h => h1 ((bl_iff a b).2 h)))
      have Hr : Hid (x = 0) := by show _ = _; rw [Hx.out]; unfold cmpB; rw [if_neg (fun h => h1 ((bl_iff a b).2 h)), if_neg (fun h => h2 ((bl_iff b a).2 h))]
      go_enter Tryz.func44, Tryz.ntmps44
      go_wp2_with (fail)
      refine (isNaN_e _ _).mono ?_
      rintro e w1 ⟨rfl, rfl⟩
      go_wp2_with (fail)
      refine (isNaN_e _ _).mono ?_
      rintro e w1 ⟨rfl, rfl⟩
      go_wp2
      go_ret
      exact ⟨by rw [Hr.out]; try rfl, rfl⟩
set_option maxRecDepth 100000 in
set_option maxHeartbeats 2000000 in
theorem or_e (x y : Int) (w : World) (g : Nat) (t : TypeId) (hb : Blk w g t [.int .i64 x, .int .i64 y]) : Calls Tryz.prog 42 #[.slice (some ⟨g, 0, none⟩) 2 2] w fun e w' => e = .returned (.int .i64 (if x = 0 then y else x)) ∧ w' = w := by
  obtain ⟨r, hr⟩ : ∃ r, r = if x = 0 then y else x := ⟨_, rfl⟩
  rw [← hr]
  have Hr := hid hr
  clear hr
  have c0 : w.cell? ⟨g, 0, none⟩ = some (.int .i64 x) := hb.cellAt 0 _ rfl
  have c1 : w.cell? ⟨g, 1, none⟩ = some (.int .i64 y) := hb.cellAt 1 _ rfl
  by_cases hx : x = 0
  · have Hy : Hid (r = y) := by show _ = _; rw [Hr.out, if_pos hx]
    subst hx
    by_cases hy : y = 0
    · have Hz : Hid (r = 0) := by show _ = _; rw [Hy.out]; exact hy
      subst hy
      clear Hr Hy
      go_enter Tryz.func42, Tryz.ntmps42
      go_wp2
      refine wp_loop_rounds 3 ?_
      rw [rounds_succ]
      go_wp2
      rw [rounds_succ]
      go_wp2
      rw [rounds_succ]
      go_wp2
      go_ret
      exact ⟨by rw [Hz.out]; try rfl, rfl⟩
    · clear Hr
      go_enter Tryz.func42, Tryz.ntmps42
      go_wp2
      refine wp_loop_rounds 3 ?_
      rw [rounds_succ]
      go_wp2
      rw [rounds_succ]
      go_wp2
      go_ret
      exact ⟨by rw [Hy.out]; try rfl, rfl⟩
  · have Hy : Hid (r = x) := by show _ = _; rw [Hr.out, if_neg hx]
    clear Hr
    go_enter Tryz.func42, Tryz.ntmps42
    go_wp2
    refine wp_loop_rounds 3 ?_
    rw [rounds_succ]
    go_wp2
    go_ret
    exact ⟨by rw [Hy.out]; try rfl, rfl⟩
set_option maxRecDepth 100000 in
set_option maxHeartbeats 2000000 in
/-- the order of the segments' numbers -/
theorem order_e (a b : ByteArray) (w : World) : Calls Tryz.prog 41 #[.string a, .string b] w fun e w' => e = .returned (.int .i64 (cmpN a.data.toList b.data.toList)) ∧ ∃ o, w' = w.alloc o := by
  obtain ⟨r, hr⟩ : ∃ r, r = cmpN a.data.toList b.data.toList := ⟨_, rfl⟩
  rw [← hr]
  rw [cmpN_eq] at hr
  have e1 : a.data.toList.length = a.size := by rw [Array.length_toList]; rfl
  have e2 : b.data.toList.length = b.size := by rw [Array.length_toList]; rfl
  rw [e1, e2] at hr
  have Hr := hid hr
  clear hr e1 e2
  go_enter Tryz.func41, Tryz.ntmps41
  go_wp2_with (fail)
  refine (cmpi_e a.size b.size _).mono ?_
  rintro e w1 ⟨rfl, rfl⟩
  go_wp2_with (fail)
  refine (cmps_e a b _).mono ?_
  rintro e w1 ⟨rfl, rfl⟩
  obtain ⟨r1, hr1⟩ : ∃ r1, r1 = if cmpI a.size b.size = 0 then cmpB a.data.toList b.data.toList else cmpI a.size b.size := ⟨_, rfl⟩
  have H1 := hid hr1
  go_wp2_with (fail)
  refine (or_e _ _ _ _ _ (Blk.new' _ _ [_, _])).mono ?_
  rw [← hr1]
  clear hr1
  rintro e w2 ⟨rfl, rfl⟩
  go_wp2
  go_ret
  exact ⟨by rw [Hr.out, H1.out]; rfl, _, rfl⟩
theorem _root_.Go.V.Rd.str {P : Program} {src dst e : TypeId} (hs : P.underlying src = some (.slice e)) (he : P.underlying e = some (.int .u8)) (hd : P.underlying dst = some .string) {w : World} {F : Nat → Prop} {A : Option Addr} {n c : Nat} {bs : List UInt8} (h : Rd w F (.slice A n c) (bys bs)) : (convert src dst (.slice A n c)).run P w = .ok (.string ⟨bs.toArray⟩) w := by
  have hsh := h.shape
  obtain ⟨A', c', hv⟩ := hsh
  injection hv with h1 h2 h3
  subst h2
  cases bs with
  | nil =>
    rw [run_convert_bytes_string w src dst e A _ c hs he hd]
    cases A with
    | none => rfl
    | some a => exact run_bytesToString w a 0 c [] (by have := run_loadCells_list (P := P) w a [] (fun j v hj => by simp at hj); simpa using this)
  | cons b bs =>
    have hsr := h.src
    obtain ⟨hlen, hcell⟩ := hsr
    obtain ⟨g, off, rfl, _⟩ := hcell 0 _ rfl
    refine run_convert_bytes_back w src dst e ⟨g, off, none⟩ c (b :: bs) hs he hd fun j hj => ?_
    obtain ⟨g', off', e2, hc⟩ := hcell j (byteV ((b :: bs)[j])) (by unfold bvs; rw [List.getElem?_map, List.getElem?_eq_getElem hj]; rfl)
    injection e2 with e2
    injection e2 with e3 e4 e5
    rw [add_mk, e3, e4]
    exact hc
set_option maxRecDepth 100000 in
set_option maxHeartbeats 2000000 in
theorem bytesEqual_e (A B : List UInt8) (va vb : Value) (F G : Nat → Prop) (w : World) (ha : Rd w F va (bys A)) (hb : Rd w G vb (bys B)) (hE : A = B) :
    Calls Tryz.prog 73 #[va, vb] w fun e w' => e = .returned (.bool true) ∧ w' = w := by
  subst hE
  obtain ⟨Aa, ca, rfl⟩ := ha.shape
  obtain ⟨Ab, cb, rfl⟩ := hb.shape
  have c1 := ha.str (P := Tryz.prog) (src := 33) (dst := 9) Tryz.underlying33 Tryz.underlying5 Tryz.underlying9
  have c2 := hb.str (P := Tryz.prog) (src := 33) (dst := 9) Tryz.underlying33 Tryz.underlying5 Tryz.underlying9
  clear ha hb
  go_enter Tryz.func73, Tryz.ntmps73
  go_wp2
  go_ret
  exact ⟨by simp, rfl⟩
theorem ext_app (p r : ByteArray) : (p ++ r).extract 0 p.size = p := by
  apply ByteArray.ext
  apply Array.toList_inj.1
  rw [ByteArray.data_extract, ByteArray.data_append]
  have : p.data.toList.length ≤ p.size := by rw [Array.length_toList]; exact Nat.le_refl _
  simp
  exact List.take_of_length_le this
theorem ext_app2 (p r : ByteArray) : (p ++ r).extract p.size (p.size + r.size) = r := by
  apply ByteArray.ext
  apply Array.toList_inj.1
  rw [ByteArray.data_extract, ByteArray.data_append]
  have h1 : p.data.toList.length ≤ p.size := by rw [Array.length_toList]; exact Nat.le_refl _
  have h2 : r.data.toList.length ≤ r.size := by rw [Array.length_toList]; exact Nat.le_refl _
  simp
  rw [List.drop_eq_nil_of_le h1, List.take_of_length_le h2]
  simp
set_option maxRecDepth 100000 in
set_option maxHeartbeats 2000000 in
/-- a string without its prefix -/
theorem cutp_e (p r : ByteArray) (w : World) (hs : p.size + r.size ≤ maxLen) :
    Calls Tryz.prog 38 #[.string (p ++ r), .string p] w fun e w' => e = .returned (.tuple #[.string r, .bool true]) ∧ w' = w := by
  obtain ⟨s, hsd⟩ : ∃ s, s = p ++ r := ⟨_, rfl⟩
  have hsz : s.size = p.size + r.size := by rw [hsd]; exact ByteArray.size_append
  have e1 : s.extract 0 p.size = p := by rw [hsd]; exact ext_app p r
  have e2 : s.extract p.size s.size = r := by rw [hsz, hsd]; exact ext_app2 p r
  rw [← hsd]
  have hle : (p.size : Int) ≤ (s.size : Int) := by omega
  have hle2 : p.size ≤ s.size := by omega
  have hm : s.size ≤ 9223372036854775807 := by simp [maxLen] at hs; omega
  clear hsd hsz
  go_enter Tryz.func38, Tryz.ntmps38
  go_wp2_with (go_in)
  go_ret2
  exact ⟨rfl, rfl⟩
end Go.Proofs.YtcechioeolokcaaGreatDoor
/- HP: layer 11, pure: a log's files on the disk: what a put, a sync, a deletion make of them. -/
namespace Go.V
open Go.RowKit
/-- the bytes of records, the first of which has number f -/
def recsF : Nat → List (List UInt8) → List UInt8
  | _, [] => []
  | f, t :: ts => recF f t ++ recsF (f + 1) ts
theorem recs_snoc : ∀ (ts : List (List UInt8)) (f : Nat) (t : List UInt8), recsF f (ts ++ [t]) = recsF f ts ++ recF (f + ts.length) t
  | [], f, t => by simp [recsF]
  | s :: ts, f, t => by
    rw [List.cons_append, recsF, recs_snoc ts (f + 1) t, recsF, List.append_assoc]
    congr 3
    simp
    omega
def dotF (p : ByteArray) : ByteArray := p ++ ⟨#[46]⟩
def nameF (p : ByteArray) (n : Nat) : ByteArray := dotF p ++ ⟨(digs n).toArray⟩
theorem ba_size (p q : ByteArray) : (p ++ q).size = p.size + q.size := ByteArray.size_append
theorem name_inj {p : ByteArray} {i j : Nat} (h : nameF p i = nameF p j) : i = j := by
  unfold nameF at h
  have h2 := congrArg (fun b => b.data.toList) h
  simp only [ByteArray.data_append, Array.toList_append] at h2
  exact digs_inj (List.append_cancel_left h2)
theorem name_size (p : ByteArray) (n : Nat) : (nameF p n).size = p.size + 1 + (digs n).length := by
  unfold nameF dotF
  rw [ba_size, ba_size]
  rfl
theorem name_ok {p : ByteArray} (hp : p.size ≤ 8) {n : Nat} (hn : n < 10 ^ 10) : namF (nameF p n) = true := by
  have := digs_len 10 n hn
  unfold namF
  rw [name_size]
  exact decide_eq_true (by omega)
/-- the files of a log: its segments' numbers begin with lo, its records' with f -/
def fileF (p : ByteArray) : Nat → Nat → List (List (List UInt8)) → ByteArray → Option (List UInt8)
  | _, _, [], _ => none
  | lo, f, s :: r, n => if n = nameF p lo then some (recsF f s) else fileF p (lo + 1) (f + s.length) r n
theorem file_some {p : ByteArray} : ∀ (sg : List (List (List UInt8))) (lo f : Nat) {n : ByteArray} {b : List UInt8}, fileF p lo f sg n = some b → ∃ i, i < sg.length ∧ n = nameF p (lo + i)
  | [], _, _, _, _, h => by cases h
  | s :: r, lo, f, n, b, h => by
    rw [fileF] at h
    by_cases hn : n = nameF p lo
    · exact ⟨0, by simp, by rw [hn]; rfl⟩
    · rw [if_neg hn] at h
      obtain ⟨i, hi, e⟩ := file_some r (lo + 1) _ h
      exact ⟨i + 1, by simp; omega, by rw [e]; congr 1; omega⟩
theorem file_at {p : ByteArray} : ∀ (sg : List (List (List UInt8))) (lo f i : Nat) {s : List (List UInt8)}, sg[i]? = some s → fileF p lo f sg (nameF p (lo + i)) = some (recsF (f + (sg.take i).flatten.length) s)
  | [], _, _, _, _, h => by simp at h
  | t :: r, lo, f, 0, s, h => by
    simp at h
    subst h
    rw [Nat.add_zero, fileF, if_pos rfl]
    simp
  | t :: r, lo, f, i + 1, s, h => by
    simp at h
    rw [fileF, if_neg (fun e => by have := name_inj e; omega), show lo + (i + 1) = lo + 1 + i from by omega, file_at r (lo + 1) (f + t.length) i h]
    simp [Nat.add_assoc]
theorem file_none {p : ByteArray} (sg : List (List (List UInt8))) (lo f i : Nat) (h : i < lo ∨ lo + sg.length ≤ i) : fileF p lo f sg (nameF p i) = none := by
  cases hq : fileF p lo f sg (nameF p i) with
  | none => rfl
  | some b =>
    obtain ⟨j, hj, e⟩ := file_some sg lo f hq
    have := name_inj e
    omega
theorem file_snoc {p : ByteArray} : ∀ (a : List (List (List UInt8))) (lo f : Nat) (s : List (List UInt8)) (n : ByteArray), fileF p lo f (a ++ [s]) n = if n = nameF p (lo + a.length) then some (recsF (f + a.flatten.length) s) else fileF p lo f a n
  | [], lo, f, s, n => by simp [fileF]
  | t :: r, lo, f, s, n => by
    rw [List.cons_append, fileF, file_snoc r (lo + 1) (f + t.length) s n, fileF]
    have e : lo + 1 + r.length = lo + (t :: r).length := by simp; omega
    have e2 : f + t.length + r.flatten.length = f + (t :: r).flatten.length := by simp; omega
    rw [e, e2]
    by_cases h1 : n = nameF p lo
    · rw [if_pos h1, if_pos h1, if_neg]
      rw [h1]
      intro e
      have := name_inj e
      simp at this
    · rw [if_neg h1, if_neg h1]
/-- the disk of a log: its files are fl -/
structure PD (D : Dk) (c : Nat) (fl : ByteArray → Option (List UInt8)) : Prop where
  u : uq D.syn
  cm : calm D
  fs : ∀ n, findF (nowF D) n = fl n
  r : 0 ≤ D.room ∧ D.room ≤ 1000000
  t : (tot (nowF D) : Int) ≤ D.room
  sn : D.syn.length ≤ c
  pn : D.pend.length ≤ c
  st : tot D.syn ≤ 1000000
  pt : totA D.pend ≤ 2000 * c
theorem PD.mono {D : Dk} {c c' : Nat} {fl : ByteArray → Option (List UInt8)} (h : PD D c fl) (hc : c ≤ c') : PD D c' fl :=
  ⟨h.u, h.cm, h.fs, h.r, h.t, Nat.le_trans h.sn hc, Nat.le_trans h.pn hc, h.st, by have := h.pt; omega⟩
theorem PD.sm {D : Dk} {c : Nat} {fl : ByteArray → Option (List UInt8)} (h : PD D c fl) (hc : c ≤ 200000) : DkSm D :=
  dk_sm (by unfold mN; have := h.sn; have := h.pn; omega) (by unfold mT; have := h.st; have := h.pt; omega) ⟨h.r.1, by have := h.r.2; omega⟩ (by rw [h.cm.1]; unfold i64R; omega)
theorem PD.start (room : Int) (hr : 0 ≤ room ∧ room ≤ 1000000) (c : Nat) : PD (d0L room) c (fun _ => none) :=
  ⟨List.nodup_nil, ⟨rfl, rfl⟩, fun _ => rfl, hr, by show (tot [] : Int) ≤ room; unfold tot; simp; exact hr.1, Nat.zero_le _, Nat.zero_le _, Nat.zero_le _, Nat.zero_le _⟩
theorem find_mem {l : List Fl} (hu : uq l) {x : ByteArray} {b : List UInt8} (h : (⟨x, b⟩ : Fl) ∈ l) : findF l x = some b := by
  obtain ⟨i, hi, e⟩ := List.mem_iff_getElem.1 h
  exact uq_find hu i ⟨x, b⟩ (by rw [List.getElem?_eq_getElem hi, e])
theorem find_with_same {l : List Fl} (hu : uq l) (x : ByteArray) (b : List UInt8) : findF (withF l x b) x = some b :=
  find_mem (uq_with hu x b) ((with_perm l x b).mem_iff.2 (List.mem_cons_self ..))
theorem find_wo_same : ∀ (l : List Fl) (x : ByteArray), findF (woF l x) x = none
  | [], _ => rfl
  | f :: l, x => by
    rw [wo_cons]
    by_cases h : f.n = x
    · rw [if_pos h]; exact find_wo_same l x
    · rw [if_neg h, findF, if_neg h]; exact find_wo_same l x
theorem push_now (d : Dk) (a : Ac) (h : calm d) : nowF (pushF d a).1 = doneF (nowF d) a := by
  rw [push_calm d a h]
  exact now_push d a
/-- a put: there is no room, and nothing is done, or it stands behind what the file had -/
theorem PD.put {D : Dk} {c : Nat} {fl : ByteArray → Option (List UInt8)} (h : PD D c fl) (a : Ac) (hk : a.k = 0) (hn : namF a.n = true) (hb : a.b.length ≤ 2000) :
    (doF D a = (D, 4) ∧ D.room < (a.b.length : Int) + tot (nowF D)) ∨ ((doF D a).2 = 0 ∧ PD (doF D a).1 (c + 1) (fun n => if n = a.n then some ((fl a.n).getD [] ++ a.b) else fl n)) := by
  have hrm := do_room D a (by omega) (by omega) h.t
  have hcm := do_calm D a h.cm (by omega)
  have huq := do_uq D a h.u
  by_cases hr : D.room < ((a.b.length + tot (nowF D) : Nat) : Int)
  · left
    rw [do_put (.inl hk), h.cm.2, if_neg (by simp), if_neg (by rw [hn]; simp), sz_zero a hk, if_pos hr]
    exact ⟨rfl, by omega⟩
  · right
    have hdo : doF D a = ({ D with pend := D.pend ++ [a] }, 0) := by
      rw [do_put (.inl hk), if_neg (by rw [h.cm.2]; simp), if_neg (by rw [hn]; simp), sz_zero a hk, if_neg hr, push_calm D a h.cm]
    rw [hdo] at hrm hcm huq ⊢
    have hun : uq (nowF D) := uq_now D.pend h.u
    refine ⟨rfl, ⟨huq, hcm, ?_, h.r, hrm.2, by have := h.sn; show D.syn.length ≤ c + 1; omega, by have := h.pn; simp; omega, h.st, ?_⟩⟩
    · intro n
      show findF (nowL D.syn (D.pend ++ [a])) n = _
      rw [now_push]
      unfold doneF
      rw [if_pos hk]
      by_cases e : n = a.n
      · rw [if_pos e, e, find_with_same hun, h.fs]
      · rw [if_neg e, find_with _ _ _ _ e, h.fs]
    · show totA (D.pend ++ [a]) ≤ _
      have e : totA (D.pend ++ [a]) = totA D.pend + a.b.length := by unfold totA; simp
      have := h.pt
      omega
/-- a file that is there is deleted -/
theorem PD.del {D : Dk} {c : Nat} {fl : ByteArray → Option (List UInt8)} (h : PD D c fl) (a : Ac) (hk : a.k = 3) (hn : namF a.n = true) (hb : a.b = []) (hf : (fl a.n).isSome = true) :
    (doF D a).2 = 0 ∧ PD (doF D a).1 (c + 1) (fun n => if n = a.n then none else fl n) := by
  have hrm := do_room D a (by omega) (by omega) h.t
  have hcm := do_calm D a h.cm (by omega)
  have huq := do_uq D a h.u
  have hdo : doF D a = ({ D with pend := D.pend ++ [a] }, 0) := by
    rw [do_find (.inr hk), if_neg (by rw [h.cm.2]; simp), if_neg (by rintro (e | e); rw [hn] at e; cases e; omega), if_neg (by rw [h.fs]; cases hq : fl a.n with | none => rw [hq] at hf; cases hf | some b => simp), push_calm D a h.cm]
  rw [hdo] at hrm hcm huq ⊢
  refine ⟨rfl, ⟨huq, hcm, ?_, h.r, hrm.2, by have := h.sn; show D.syn.length ≤ c + 1; omega, by have := h.pn; simp; omega, h.st, ?_⟩⟩
  · intro n
    show findF (nowL D.syn (D.pend ++ [a])) n = _
    rw [now_push]
    unfold doneF
    rw [if_neg (by omega), if_neg (by omega), if_neg (by omega), if_pos hk]
    by_cases e : n = a.n
    · rw [if_pos e, e, find_wo_same]
    · rw [if_neg e, find_wo _ _ _ e, h.fs]
  · show totA (D.pend ++ [a]) ≤ _
    have e : totA (D.pend ++ [a]) = totA D.pend + a.b.length := by unfold totA; simp
    have := h.pt
    rw [hb] at e
    simp at e
    omega
theorem PD.sync {D : Dk} {c c' : Nat} {fl : ByteArray → Option (List UInt8)} (h : PD D c fl) (a : Ac) (hk : a.k = 4) (hl : (nowF D).length ≤ c') :
    PD (doF D a).1 c' fl := by
  have e : doF D a = ({ D with syn := nowF D, pend := [] }, 0) := by
    unfold doF
    rw [if_pos hk, burn_calm D h.cm]
    simp
  rw [e]
  have e2 : nowF { D with syn := nowF D, pend := [] } = nowF D := rfl
  refine ⟨uq_now D.pend h.u, h.cm, fun n => by rw [e2]; exact h.fs n, h.r, by rw [e2]; exact h.t, hl, Nat.zero_le _, ?_, Nat.zero_le _⟩
  have := h.t
  have := h.r.2
  show tot (nowF D) ≤ 1000000
  omega
theorem find_some_mem : ∀ {l : List Fl} {n : ByteArray}, (findF l n).isSome = true ↔ n ∈ l.map Fl.n
  | [], n => by simp [findF]
  | f :: l, n => by
    rw [findF, List.map_cons, List.mem_cons]
    by_cases h : f.n = n
    · rw [if_pos h]; simp [h]
    · rw [if_neg h, find_some_mem]
      constructor
      · exact .inr
      · rintro (e | e)
        · exact absurd e.symm h
        · exact e
/-- the names on a log's disk -/
theorem PD.names {D : Dk} {c : Nat} {p : ByteArray} {lo f : Nat} {sg : List (List (List UInt8))} (h : PD D c (fileF p lo f sg)) : ((nowF D).map Fl.n).Perm ((List.range' lo sg.length).map (nameF p)) := by
  have hun : uq (nowF D) := uq_now D.pend h.u
  refine (List.perm_ext_iff_of_nodup hun ?_).2 fun n => ?_
  · unfold List.Nodup
    rw [List.pairwise_map]
    exact (List.pairwise_lt_range' (s := lo) (n := sg.length)).imp fun {a b} hab e => by have := name_inj e; omega
  · rw [← find_some_mem, h.fs, List.mem_map]
    constructor
    · intro hs
      obtain ⟨b, hb⟩ := Option.isSome_iff_exists.1 hs
      obtain ⟨i, hi, e⟩ := file_some sg lo f hb
      exact ⟨lo + i, by rw [List.mem_range']; exact ⟨i, hi, by omega⟩, e.symm⟩
    · rintro ⟨i, hi, rfl⟩
      rw [List.mem_range'] at hi
      obtain ⟨j, hj, e⟩ := hi
      rw [show i = lo + j from by omega, file_at sg lo f j (List.getElem?_eq_getElem hj)]
      rfl
theorem PD.count {D : Dk} {c : Nat} {p : ByteArray} {lo f : Nat} {sg : List (List (List UInt8))} (h : PD D c (fileF p lo f sg)) : (nowF D).length = sg.length := by
  have := h.names.length_eq
  simpa using this
/-- how many bytes the last segment has -/
def lastZ : Nat → List (List (List UInt8)) → Nat
  | _, [] => 0
  | f, [s] => (recsF f s).length
  | f, s :: t :: r => lastZ (f + s.length) (t :: r)
theorem lastZ_snoc : ∀ (a : List (List (List UInt8))) (f : Nat) (s : List (List UInt8)), lastZ f (a ++ [s]) = (recsF (f + a.flatten.length) s).length
  | [], f, s => by simp [lastZ]
  | [t], f, s => by simp [lastZ]
  | t :: u :: r, f, s => by
    show lastZ (f + t.length) ((u :: r) ++ [s]) = _
    rw [lastZ_snoc (u :: r) (f + t.length) s]
    congr 2
    simp
    omega
end Go.V
/- HB: layer 11: a range over a function whose rounds write what the iterator reads; slices.Backward over bytes; the number behind one. -/
namespace Go.V
open Go.RowKit
/-- an iterator of N rounds at the most: the k-th hands on 'encs k'; what it reads ahead of it is Nd k, and the rounds must see to that -/
def SeqN (F : Fence) (n : Nat) (P : Program) (g : Nat) (lb : Array Value) (encs : Nat → Array Value) (Nd : Nat → World → Prop) (N : Nat) (w : World) : Prop :=
  ∀ (l : Nat) (J Jx : Nat → World → Prop) (W : World), Below w.heap.size w W → (∀ k W1, J k W1 → Nd k W1) →
    (∀ k W1, J k W1 → k < N → YieldAt F (n - 1) P l (encs k) W1 fun e W' => (e = .returned (.bool true) ∧ J (k + 1) W') ∨ (e = .returned (.bool false) ∧ Jx k W')) →
    J 0 W → CallsIn F n P g (#[.func (.yield l) #[] #[]] ++ lb) W fun e W' => (∃ v, e = .returned v) ∧ (J N W' ∨ ∃ k, k < N ∧ Jx k W')
/-- how a round may be left: it goes on, or the function returns -/
def postN (I Ix : Nat → World → Prop) (k : Nat) (W : World) : Exit → Act → World → Prop
  | .normal, _, W' => KeepsOthers W W' ∧ I (k + 1) W'
  | .ret, _, W' => KeepsOthers W W' ∧ Ix k W'
  | _, _, _ => False
theorem wpIn_rangeN {F : Fence} {n : Nat} {P : Program} {g : Operand} {ps : Array Tmp} {assign body : Code} {Q : Exit → Act → World → Prop} {a : Act} {w : World}
    (hro : F.round = none) (h1 : 1 ≤ n) {gf : Nat} {lb : Array Value} (hg : a.eval g = .func (.func gf) #[] lb) (hFg : F.fn gf) (eg : ∀ args w, (callFunc gf args).run P w = .ok (.enter gf args) w)
    {encs : Nat → Array Value} {Nd : Nat → World → Prop} {N : Nat} {w0 : World} (hseq : SeqN F (n - 1) P gf lb encs Nd N w0) (hb0 : Below w0.heap.size w0 w) (hps : ∀ x, (encs x).size = ps.size)
    (I Ix : Nat → World → Prop) (hI : OwnFrom w.heap.size I) (hIx : OwnFrom w.heap.size Ix) (hNd : ∀ k W, I k W → Nd k W) (h0 : I 0 w) (a₁ : Nat → Act)
    (hassign : ∀ (l : Nat) (x : Nat) (W : World) (K : Act → World → Prop), K (a₁ x) W →
      assign.wpIn (F.inRound l) (n - 1 - 1) P (Exit.then K (fun _ _ _ => False)) { tmps := (ps.zip (encs x)).foldl (fun t (p, v) => t.setIfInBounds p v) a.tmps, defers := [] } W)
    (hbody : ∀ (l : Nat) (k : Nat) (W : World), I k W → k < N → body.wpIn (F.inRound l) (n - 1 - 1) P (postN I Ix k W) (a₁ k) W)
    (hdone : ∀ (D : Nat) (W : World), w.heap.size ≤ D → I N W → W.heap[D]? = some (.deferred (some [])) → Q .normal { a with defers := { target := .collected D, args := #[] } :: a.defers } W)
    (hstop : ∀ (D : Nat) (k : Nat) (W : World), w.heap.size ≤ D → k < N → Ix k W → W.heap[D]? = some (.deferred (some [])) → Code.ret.wpIn F n P Q { a with defers := { target := .collected D, args := #[] } :: a.defers } W) :
    (Code.rangeFunc g ps assign body).wpIn F n P Q a w := by
  refine wpIn_rangeFunc fun fn hfn => ?_
  rw [hro]
  obtain ⟨rec, hrec⟩ : ∃ rec : LoopState → Option Code → Loop, rec = fun st pe => { state := st, pending := pe, fn, tmps := a.tmps, params := ps, assign, body, defers := w.heap.size } := ⟨_, rfl⟩
  obtain ⟨W1, hW1⟩ : ∃ W1, W1 = (w.alloc (.deferred (some []))).alloc (.loop (rec .ready none)) := ⟨_, rfl⟩
  have hL1 : W1.heap[w.heap.size + 1]? = some (.loop (rec .ready none)) := by
    have := World.alloc_heap_new (w.alloc (.deferred (some []))) (.loop (rec .ready none))
    rw [World.size_alloc] at this
    rw [hW1]
    exact this
  have hK1 : W1.heap[w.heap.size]? = some (.deferred (some [])) := by
    rw [hW1]
    exact heap_alloc_same _ _ _ _ (World.alloc_heap_new w _)
  have hI1 : I 0 W1 := by
    rw [hW1]
    exact hI.alloc _ (hI.alloc _ h0)
  have hb1 : Below w0.heap.size w0 W1 := by
    rw [hW1]
    exact (hb0.alloc hb0.size _).alloc (by have := hb0.size; simp; omega) _
  refine ⟨w.heap.size + 1, [{ target := .collected w.heap.size, args := #[] }], W1, { target := .fn (.func gf) lb, args := #[.func (.yield (w.heap.size + 1)) #[] #[]] }, W1, gf,
    #[.func (.yield (w.heap.size + 1)) #[] #[]] ++ lb, W1, ?_, ?_, ?_, ?_, fun _ => h1, ?_⟩
  · rw [hW1, hrec]
    exact run_enterLoop_outer _ _ _ _ _
  · simp only [resolve, hg]
    simp [go_sem]
  · intro f' hf'
    simp [Target.leads] at hf'
    exact hf' ▸ hFg
  · simp [invoke, go_sem, eg]
  refine (hseq (w.heap.size + 1)
    (fun k W => I k W ∧ W.heap[w.heap.size + 1]? = some (.loop (rec .ready none)) ∧ W.heap[w.heap.size]? = some (.deferred (some [])))
    (fun k W => Ix k W ∧ W.heap[w.heap.size + 1]? = some (.loop (rec .done (some .ret))) ∧ W.heap[w.heap.size]? = some (.deferred (some [])))
    W1 hb1 (fun k W h => hNd k W h.1) ?_ ⟨hI1, hL1, hK1⟩).mono ?_
  · rintro k W ⟨hi, hl, hk⟩ hlt
    have hlw : w.heap.size + 1 < W.heap.size := (Array.getElem?_eq_some_iff.1 hl).1
    obtain ⟨V, hV⟩ : ∃ V, V = W.putObj (w.heap.size + 1) (.loop (rec .busy none)) := ⟨_, rfl⟩
    have hbr : (Instr.beginRound (w.heap.size + 1)).run P W = .ok () V := by
      rw [hV, run_beginRound hl (by rw [hrec])]
      rw [hrec]
    have hy := run_yield (P := P) (args := encs k) hl (by rw [hrec]; exact hps k)
    rw [hrec] at hy
    have hi2 : I k V := hV ▸ hI.putObj _ hi (by omega) hl rfl
    have hl2 : V.heap[w.heap.size + 1]? = some (.loop (rec .busy none)) := hV ▸ World.putObj_heap_same hlw
    have hk2 : V.heap[w.heap.size]? = some (.deferred (some [])) := by
      rw [hV, World.putObj_heap_other (by omega)]
      exact hk
    refine ⟨fn, _, assign, body, hy, roundIn_of_wpIn hfn (hassign _ k W _ ⟨V, hbr, ?_⟩)⟩
    refine wpIn_mono (hbody _ k V hi2 hlt) ?_
    have fin : ∀ (jump : Option Code) (U : World), KeepsOthers V U → ∃ U', (Instr.endRound (w.heap.size + 1) jump).run P U = .ok (.bool jump.isNone) U' ∧ U' = U.putObj (w.heap.size + 1) (.loop (rec (if jump.isNone then .ready else .done) jump)) ∧ U.heap[w.heap.size + 1]? = some (.loop (rec .busy none)) ∧
        U'.heap[w.heap.size + 1]? = some (.loop (rec (if jump.isNone then .ready else .done) jump)) ∧ U'.heap[w.heap.size]? = some (.deferred (some [])) := by
      intro jump U hU
      have hl3 := hU.same _ _ hl2 rfl
      refine ⟨_, ?_, rfl, hl3, World.putObj_heap_same (Array.getElem?_eq_some_iff.1 hl3).1, (World.putObj_heap_other (by omega)).trans (hU.same _ _ hk2 rfl)⟩
      have := run_endRound (P := P) jump hl3
      rw [hrec] at this ⊢
      exact this
    rintro e a3 U hp
    cases e with
    | normal =>
      obtain ⟨hU, hi3⟩ := hp
      obtain ⟨U', hr, he, hl3, hl4, hk4⟩ := fin none U hU
      exact ⟨_, _, hr, .inl ⟨rfl, he ▸ hI.putObj _ hi3 (by omega) hl3 rfl, hl4, hk4⟩⟩
    | ret =>
      obtain ⟨hU, hi3⟩ := hp
      obtain ⟨U', hr, he, hl3, hl4, hk4⟩ := fin (some .ret) U hU
      exact ⟨_, _, hr, .inr ⟨rfl, he ▸ hIx.putObj _ hi3 (by omega) hl3 rfl, hl4, hk4⟩⟩
    | exit id => exact hp.elim
    | goto t => exact hp.elim
    | panic ch => exact hp.elim
    | outgrown => exact hp.elim
  · rintro e U ⟨⟨v, rfl⟩, ⟨hi, hl, hk⟩ | ⟨k, hkN, hi, hl, hk⟩⟩
    · refine ⟨none, U.putObj (w.heap.size + 1) (.loop (rec .exhausted none)), ?_, hdone w.heap.size _ (Nat.le_refl _) (hI.putObj _ hi (by omega) hl rfl) ((World.putObj_heap_other (by omega)).trans hk)⟩
      have := run_endLoop (P := P) hl (by rw [hrec]; simp)
      rw [hrec] at this ⊢
      exact this
    · refine ⟨some .ret, U.putObj (w.heap.size + 1) (.loop (rec .exhausted (some .ret))), ?_, hstop w.heap.size k _ (Nat.le_refl _) hkN (hIx.putObj _ hi (by omega) hl rfl) ((World.putObj_heap_other (by omega)).trans hk)⟩
      have := run_endLoop (P := P) hl (by rw [hrec]; simp)
      rw [hrec] at this ⊢
      exact this
end Go.V
namespace Go.Proofs.YtcechioeolokcaaGreatDoor
open Go.RowKit Go.V
attribute [local go_sem] Oper.semAt_some
/-- bytes in block b from its beginning on, which may be written -/
def BR (W : World) (b : Nat) (l : List UInt8) : Prop := ∀ j c, l[j]? = some c → W.cell? ⟨b, j, none⟩ = some (byteV c) ∧ W.frozen? ⟨b, j, none⟩ = false
theorem BR.own {W W' : World} {b : Nat} {l : List UInt8} {row : Option Nat} (h : BR W b l) (hg : W.grownBy W' row) (hr : ∀ r, row = some r → ∃ o : Obj, W.heap[r]? = some o ∧ o.isCells = false) : BR W' b l := fun j c hj => ⟨cell_kept (h j c hj).1 hg hr, (frozen_kept (h j c hj).1 hg hr).trans (h j c hj).2⟩
theorem BR.keep {W W' : World} {b : Nat} {l : List UInt8} (h : BR W b l) (hk : W'.heap[b]? = W.heap[b]?) : BR W' b l := fun j c hj => ⟨(World.cell?_of_block hk).trans (h j c hj).1, (World.frozen?_of_block hk).trans (h j c hj).2⟩
theorem BR.alloc {W : World} {b : Nat} {l : List UInt8} (h : BR W b l) (hb : b < W.heap.size) (o : Obj) : BR (W.alloc o) b l := h.keep (Below.heap_alloc W o b hb)
set_option maxRecDepth 100000 in
set_option maxHeartbeats 2000000 in
theorem backward_e (A : Option Addr) (n c : Nat) (w : World) : Calls Tryz.prog 54 #[.slice A n c] w fun e w' => e = .returned (.func (.func 75) #[] #[.pointer (some ⟨w.heap.size, 0, none⟩)]) ∧ w' = w.alloc (.cells #[.slice A n c] 33) := by
  go_enter Tryz.func54, Tryz.ntmps54
  go_wp2
  go_ret
  exact ⟨rfl, rfl⟩
/-- what the k-th round's iterator reads: its box, and the bytes that it has not yet handed on -/
def NdB (box b : Nat) (cap : Nat) (d : List UInt8) (k : Nat) (W : World) : Prop :=
  W.cell? ⟨box, 0, none⟩ = some (.slice (some ⟨b, 0, none⟩) d.length cap) ∧ ∀ j, j + k < d.length → W.cell? ⟨b, j, none⟩ = some (byteV (d[j]?.getD 0))
set_option maxRecDepth 100000 in
set_option maxHeartbeats 2000000 in
theorem back_e (box b cap : Nat) (d : List UInt8) (hd : d.length ≤ 1000) (w : World) :
    SeqN Fence.wide 3 Tryz.prog 75 #[.pointer (some ⟨box, 0, none⟩)] (fun k => #[.int .i64 ((d.length - 1 - k : Nat) : Int), byteV (d[d.length - 1 - k]?.getD 0)]) (NdB box b cap d) d.length w := by
  intro l J Jx W hW hNd hY h0
  refine callsIn_of_wp Tryz.func75 rfl trivial ?_ rfl
  simp only [Tryz.ntmps75, List.size_toArray, List.length_cons, List.length_nil, Nat.reduceAdd, Nat.reduceSub, Array.replicate_succ, Array.replicate_zero, List.push_toArray, List.append_toArray, List.nil_append, List.cons_append]
  have hb := (hNd 0 W h0).1
  have hin : IntKind.i64.wrap ((d.length : Int) - 1) = (d.length : Int) - 1 := IntWalk.i64_in _ (by omega)
  gi_wp2
  gi_loopw [3] (fun i wr => ∃ k : Nat, k ≤ d.length ∧ i = .int .i64 ((d.length : Int) - 1 - k) ∧ J k wr)
    (fun i _ => (intOf i + 1).toNat)
  case atStart => exact ⟨0, Nat.zero_le _, by simp, h0⟩
  case round =>
    obtain ⟨k, hk, rfl, hJ⟩ := hrel
    have hbx := (hNd k wr hJ).1
    by_cases hlt : k < d.length
    · obtain ⟨i, hi⟩ : ∃ i : Nat, i = d.length - 1 - k := ⟨_, rfl⟩
      have hII : (d.length : Int) - 1 - k = (i : Int) := by omega
      have hc := (hNd k wr hJ).2 i (by omega)
      have hY2 := hY k wr hJ hlt
      rw [← hi] at hY2
      obtain ⟨dv, hdv⟩ : ∃ dv, dv = d[i]?.getD 0 := ⟨_, rfl⟩
      rw [← hdv] at hc hY2
      clear hdv
      obtain ⟨fn, tmps, assign, body, hy, hR⟩ := hY2
      have hid : i < d.length := by omega
      have hin2 : IntKind.i64.wrap ((i : Int) - 1) = (i : Int) - 1 := IntWalk.i64_in _ (by omega)
      have h0i : (0 : Int) ≤ (i : Int) := by omega
      rw [hII]
      clear hi
      gi_wp2
      refine hR.mono ?_
      rintro e W3 (⟨rfl, hJ3⟩ | ⟨rfl, hJx3⟩)
      · gi_wp2
        go_roundw
        case rel => exact ⟨k + 1, by omega, by congr 1; omega, hJ3⟩
        case measure => simp [intOf]
      · gi_wp2
        refine bodyPost_ret (results_none rfl _ _ _) rfl ?_
        exact ⟨⟨_, rfl⟩, .inr ⟨k, hlt, hJx3⟩⟩
    · have hk2 : k = d.length := by omega
      subst hk2
      have hII : (d.length : Int) - 1 - d.length = -1 := by omega
      rw [hII]
      gi_wp2
      go_end0
      exact ⟨⟨_, rfl⟩, .inl hJ⟩
/-- the bytes when k of them have been turned to noughts from behind -/
def stB (d : List UInt8) (k : Nat) : List UInt8 := d.take (d.length - k) ++ List.replicate k 48
theorem stB_len (d : List UInt8) (k : Nat) (h : k ≤ d.length) : (stB d k).length = d.length := by
  unfold stB
  simp
  omega
theorem stB_zero (d : List UInt8) : stB d 0 = d := by simp [stB]
theorem stB_all (d : List UInt8) : stB d d.length = List.replicate d.length 48 := by simp [stB]
theorem stB_split (p q : List UInt8) (c : UInt8) : stB (p ++ c :: q) q.length = p ++ c :: List.replicate q.length 48 := by
  unfold stB
  have e : (p ++ c :: q).length - q.length = p.length + 1 := by simp; omega
  rw [e, List.take_append, List.take_of_length_le (by omega)]
  simp
theorem stB_next (p q : List UInt8) (c : UInt8) : stB (p ++ c :: q) (q.length + 1) = p ++ 48 :: List.replicate q.length 48 := by
  unfold stB
  have e : (p ++ c :: q).length - (q.length + 1) = p.length := by simp
  rw [e, List.take_left, List.replicate_succ]
theorem incR_nines : ∀ (q r : List UInt8), (∀ x ∈ q, ¬ x < 57) → incR (q ++ r) = List.replicate q.length 48 ++ incR r
  | [], r, _ => rfl
  | c :: q, r, h => by
    rw [List.cons_append, incR, if_neg (h c (List.mem_cons_self ..)), incR_nines q r (fun x hx => h x (List.mem_cons_of_mem _ hx))]
    rfl
theorem inc_split (p q : List UInt8) (c : UInt8) (hc : c < 57) (hq : ∀ x ∈ q, ¬ x < 57) : incF (p ++ c :: q) = p ++ (c + 1) :: List.replicate q.length 48 := by
  unfold incF
  have e : (p ++ c :: q).reverse = q.reverse ++ (c :: p.reverse) := by simp
  rw [e, incR_nines _ _ (fun x hx => hq x (List.mem_reverse.1 hx)), incR, if_pos hc]
  simp
theorem inc_nines (q : List UInt8) (hq : ∀ x ∈ q, ¬ x < 57) : incF q = 49 :: List.replicate q.length 48 := by
  unfold incF
  have := incR_nines q.reverse [] (fun x hx => hq x (List.mem_reverse.1 hx))
  rw [List.append_nil] at this
  rw [this]
  simp [incR]
theorem BR.set {W : World} {b : Nat} {l : List UInt8} (h : BR W b l) (i : Nat) (c : UInt8) : BR (W.setCell ⟨b, i, none⟩ (byteV c)) b (l.set i c) := by
  intro j x hj
  rw [World.frozen?_setCell]
  by_cases e : j = i
  · subst e
    by_cases hlt : j < l.length
    · rw [List.getElem?_set_self hlt] at hj
      injection hj with hj
      subst hj
      have h2 := h j _ (List.getElem?_eq_getElem hlt)
      exact ⟨World.cell?_setCell_same' _ _ _ (by rw [h2.1]; rfl), h2.2⟩
    · rw [List.getElem?_eq_none (by simp; omega)] at hj
      cases hj
  · rw [List.getElem?_set_ne (fun h => e h.symm)] at hj
    refine ⟨?_, (h j x hj).2⟩
    have hne : (⟨b, i, none⟩ : Addr) ≠ ⟨b, j, none⟩ := fun h => e (by injection h with h1 h2; exact h2.symm)
    rw [← (h j x hj).1]
    apply World.cell?_setCell_other
    exact hne
theorem boxed_at {W : World} {B : Nat} {t : TypeId} {v : Value} (h : Boxed W B t v) (b i : Nat) (hne : B ≠ b) (u : Value) : Boxed (W.setCell ⟨b, i, none⟩ u) B t v := (Below.heap_setCell W ⟨b, i, none⟩ u B hne).trans h
theorem BR.fresh (w : World) (t : TypeId) (d : List UInt8) (cap : Nat) : BR (w.drew.alloc (.cells (bytesRow ⟨d.toArray⟩ cap) t ((bytesRow ⟨d.toArray⟩ cap).size, (bytesRow ⟨d.toArray⟩ cap).size + 1))) w.heap.size d := by
  intro j c hj
  have hlt : j < d.length := (List.getElem?_eq_some_iff.1 hj).1
  have hh : (w.drew.alloc (.cells (bytesRow ⟨d.toArray⟩ cap) t ((bytesRow ⟨d.toArray⟩ cap).size, (bytesRow ⟨d.toArray⟩ cap).size + 1))).heap[w.heap.size]? = _ := World.alloc_heap_new w.drew _
  have hb : (bytesRow ⟨d.toArray⟩ cap)[j]? = some (byteV c) := by
    unfold bytesRow
    rw [Array.getElem?_append_left (by simp; exact hlt)]
    simp only [Array.getElem?_map, List.getElem?_toArray, hj]
    rfl
  have hs : j < (bytesRow ⟨d.toArray⟩ cap).size := (Array.getElem?_eq_some_iff.1 hb).1
  constructor
  · unfold World.cell?
    rw [hh]
    simp [hb]
  · unfold World.frozen?
    rw [hh]
    simp
    omega
set_option maxRecDepth 100000 in
set_option maxHeartbeats 4000000 in
theorem after_e (d : List UInt8) (hd : d.length ≤ 1000) (w : World) :
    Calls Tryz.prog 34 #[.string ⟨d.toArray⟩] w fun e w' => e = .returned (.string ⟨(incF d).toArray⟩) ∧ Below w.heap.size w w' := by
  refine (callsIn_wide (n := 4)).1 ?_
  refine callsIn_of_wp_marks Tryz.func34 rfl trivial ?_ rfl
  simp only [Tryz.ntmps34, List.size_toArray, List.length_cons, List.length_nil, Nat.reduceAdd, Nat.reduceSub, Array.replicate_succ, Array.replicate_zero, List.push_toArray, List.append_toArray, List.nil_append, List.cons_append]
  have hcv := fun W : World => run_bytes_of_string (P := Tryz.prog) W 9 33 5 ⟨d.toArray⟩ Tryz.underlying9 Tryz.underlying33 Tryz.underlying5
  gi_wp2_with (fail)
  refine ⟨trivial, (callsIn_wide.2 (backward_e _ _ _ _)).mono ?_⟩
  rintro e w1 ⟨rfl, hw1⟩
  obtain ⟨cap, hcap⟩ : ∃ cap, cap = grownCap (w.alloc (.cells #[.string ByteArray.empty] 9)) d.length 0 5 := ⟨_, rfl⟩
  rw [show grownCap (w.alloc (.cells #[.string { data := #[] }] 9)) d.length 0 5 = cap from hcap.symm] at hw1 ⊢
  clear hcap hcv
  have hb0 := BR.fresh (w.alloc (.cells #[.string ByteArray.empty] 9)) 5 d cap
  rw [World.size_alloc] at hb0
  have hsz : w1.heap.size = w.heap.size + 4 := by rw [hw1]; simp
  have bR : BR w1 (w.heap.size + 1) d := by
    rw [hw1]
    have h1 : BR ((w.alloc (.cells #[.string ByteArray.empty] 9)).alloc (.cells (bytesRow ⟨d.toArray⟩ cap) 5 ((bytesRow ⟨d.toArray⟩ cap).size, (bytesRow ⟨d.toArray⟩ cap).size + 1))) (w.heap.size + 1) d := hb0
    exact (h1.alloc (by simp) (.cells #[.slice (some ⟨w.heap.size + 1, 0, none⟩) d.length cap] 33)).alloc (by simp) _
  have x0 : Boxed w1 w.heap.size 9 (.string ByteArray.empty) := by
    rw [hw1]
    exact (((Boxed.new w 9 (.string ByteArray.empty)).alloc _).alloc _).alloc _
  have x2 : Boxed w1 (w.heap.size + 1 + 1) 33 (.slice (some ⟨w.heap.size + 1, 0, none⟩) d.length cap) := by
    rw [hw1]
    have := (Boxed.new ((w.alloc (.cells #[.string ByteArray.empty] 9)).alloc (.cells (bytesRow ⟨d.toArray⟩ cap) 5 ((bytesRow ⟨d.toArray⟩ cap).size, (bytesRow ⟨d.toArray⟩ cap).size + 1))) 33 (.slice (some ⟨w.heap.size + 1, 0, none⟩) d.length cap))
    rw [World.size_alloc, World.size_alloc] at this
    exact Boxed.alloc this _
  have x3 : Boxed w1 (w.heap.size + 3) 33 (.slice (some ⟨w.heap.size + 1, 0, none⟩) d.length cap) := by
    rw [hw1]
    have := (Boxed.new (((w.alloc (.cells #[.string ByteArray.empty] 9)).alloc (.cells (bytesRow ⟨d.toArray⟩ cap) 5 ((bytesRow ⟨d.toArray⟩ cap).size, (bytesRow ⟨d.toArray⟩ cap).size + 1))).alloc (.cells #[.slice (some ⟨w.heap.size + 1, 0, none⟩) d.length cap] 33)) 33 (.slice (some ⟨w.heap.size + 1, 0, none⟩) d.length cap))
    rw [World.size_alloc, World.size_alloc, World.size_alloc] at this
    exact this
  have hB1 : Below w.heap.size w w1 := by
    rw [hw1]
    have hb := ((((Below.refl w.heap.size w).alloc (Nat.le_refl _) (.cells #[.string ByteArray.empty] 9)).alloc (by simp) (.cells (bytesRow ⟨d.toArray⟩ cap) 5 ((bytesRow ⟨d.toArray⟩ cap).size, (bytesRow ⟨d.toArray⟩ cap).size + 1))).alloc (by simp; omega) (.cells #[.slice (some ⟨w.heap.size + 1, 0, none⟩) d.length cap] 33))
    exact hb.drew.alloc hb.size _
  have hs3 : (((w.alloc (.cells #[.string { data := #[] }] 9)).alloc (.cells (bytesRow ⟨d.toArray⟩ cap) 5 ((bytesRow ⟨d.toArray⟩ cap).size, (bytesRow ⟨d.toArray⟩ cap).size + 1))).alloc (.cells #[.slice (some ⟨w.heap.size + 1, 0, none⟩) d.length cap] 33)).drew.heap.size = w.heap.size + 3 := by simp
  rw [hs3]
  clear hw1 hs3 hb0
  gi_wp2_with (fail)
  refine wpIn_rangeN rfl (by omega) (gf := 75) (lb := #[.pointer (some ⟨w.heap.size + 3, 0, none⟩)]) rfl trivial (enters_of Tryz.func75 (by kernel_rfl) rfl)
    (back_e (w.heap.size + 3) (w.heap.size + 1) cap d hd w1) (Below.refl _ _) (fun _ => rfl)
    (fun k W => k ≤ d.length ∧ (∀ x ∈ d.drop (d.length - k), ¬ x < 57) ∧ BR W (w.heap.size + 1) (stB d k) ∧ Boxed W w.heap.size 9 (.string ByteArray.empty) ∧ Boxed W (w.heap.size + 1 + 1) 33 (.slice (some ⟨w.heap.size + 1, 0, none⟩) d.length cap) ∧ Boxed W (w.heap.size + 3) 33 (.slice (some ⟨w.heap.size + 1, 0, none⟩) d.length cap) ∧ Below w.heap.size w W)
    (fun _ W => Boxed W w.heap.size 9 (.string ⟨(incF d).toArray⟩) ∧ Below w.heap.size w W)
    ?hI ?hIx ?hNd ⟨Nat.zero_le _, (fun x hx => by simp at hx), by rw [stB_zero]; exact bR, x0, x2, x3, hB1⟩
    (fun k => { tmps := #[.string ⟨d.toArray⟩, undef, .pointer (some ⟨w.heap.size, 0, none⟩), .pointer (some ⟨w.heap.size + 1 + 1, 0, none⟩), .int .i64 ((d.length - 1 - k : Nat) : Int), byteV (d[d.length - 1 - k]?.getD 0), .string ⟨d.toArray⟩, .slice (some ⟨w.heap.size + 1, 0, none⟩) d.length cap, .slice (some ⟨w.heap.size + 1, 0, none⟩) d.length cap, .func (.func 75) #[] #[.pointer (some ⟨w.heap.size + 3, 0, none⟩)], .int .i64 ((d.length - 1 - k : Nat) : Int), byteV (d[d.length - 1 - k]?.getD 0), undef, undef, undef, undef, undef, undef, undef, undef, undef, undef, undef, undef, undef, undef, undef, undef], defers := [] }) ?assign ?body ?done ?stop
  case hI =>
    rintro k W W' row ⟨h1, h2, h3, h4, h5, h6, h7⟩ hg hr
    have hr2 : ∀ r, row = some r → ∃ o : Obj, W.heap[r]? = some o ∧ o.isCells = false := fun r e => (hr r e).2
    have hne : ∀ b, b < w.heap.size + 4 → some b ≠ row := fun b hb e => by have := (hr b e.symm).1; omega
    exact ⟨h1, h2, h3.own hg hr2, h4.kept hg (hne _ (by omega)), h5.kept hg (hne _ (by omega)), h6.kept hg (hne _ (by omega)), h7.grown hg h7.size (fun b e => by have := (hr b e).1; omega)⟩
  case hIx =>
    rintro k W W' row ⟨h4, h7⟩ hg hr
    have hne : ∀ b, b < w.heap.size + 4 → some b ≠ row := fun b hb e => by have := (hr b e.symm).1; omega
    exact ⟨h4.kept hg (hne _ (by omega)), h7.grown hg h7.size (fun b e => by have := (hr b e).1; omega)⟩
  case hNd =>
    rintro k W ⟨h1, h2, h3, h4, h5, h6, h7⟩
    refine ⟨h6.cell, fun j hj => ?_⟩
    have hx : (stB d k)[j]? = some (d[j]?.getD 0) := by
      unfold stB
      rw [List.getElem?_append_left (by simp; omega), List.getElem?_take, if_pos (by omega), List.getElem?_eq_getElem (by omega)]
      rfl
    exact (h3 j _ hx).1
  case assign =>
    intro l x W K hK
    gi_wp2
    exact hK
  case body =>
    rintro l k W ⟨h1, h2, h3, h4, h5, h6, h7⟩ hlt
    obtain ⟨p, c, q, hpc, hq⟩ : ∃ p c q, d = p ++ c :: q ∧ q.length = k := by
      refine ⟨d.take (d.length - 1 - k), d[d.length - 1 - k]'(by omega), d.drop (d.length - 1 - k + 1), ?_, by simp only [List.length_drop]; omega⟩
      rw [← List.drop_eq_getElem_cons, List.take_append_drop]
    have hi : d.length - 1 - k = p.length := by
      have := congrArg List.length hpc
      simp at this
      omega
    have hdi : d[p.length]?.getD 0 = c := by rw [hpc]; simp
    have hnine : ∀ x ∈ q, ¬ x < 57 := by
      intro x hx
      refine h2 x ?_
      have : d.drop (d.length - k) = q := by
        have e : d.length - k = p.length + 1 := by omega
        rw [e, hpc]
        simp
      rw [this]
      exact hx
    have hst : stB d k = p ++ c :: List.replicate k 48 := by rw [hpc, ← hq]; exact stB_split p q c
    have hst2 : stB d (k + 1) = p ++ 48 :: List.replicate k 48 := by rw [hpc, ← hq]; exact stB_next p q c
    rw [hi, hdi]
    rw [hst] at h3
    have hcell := (h3 p.length c (by simp))
    have hpl : p.length < d.length := by omega
    have c2 := h5.cell
    by_cases hc : c < 57
    · have hinc : incF d = p ++ (c + 1) :: List.replicate k 48 := by rw [hpc, ← hq]; exact inc_split p q c hc hnine
      have hcn : (c.toNat : Int) < 57 := by
        rw [UInt8.lt_iff_toNat_lt] at hc
        have h57 : (57 : UInt8).toNat = 57 := rfl
        omega
      have hw : byteV (c + 1) = .int .u8 ((c.toNat : Int) + 1) := by
        have e : (c + 1).toNat = c.toNat + 1 := by
          rw [UInt8.toNat_add]
          show (c.toNat + 1) % 256 = _
          omega
        show Value.int .u8 ((c + 1).toNat : Int) = _
        rw [e]
        rfl
      have h3s := h3.set p.length (c + 1)
      have hset : (p ++ c :: List.replicate k 48).set p.length (c + 1) = p ++ (c + 1) :: List.replicate k 48 := by simp
      rw [hset, ← hinc, hw] at h3s
      have hlen : d.length = (incF d).length := by rw [hinc, hpc]; simp [hq]
      have hcv : ∀ V, V = W.setCell ⟨w.heap.size + 1, p.length, none⟩ (.int .u8 ((c.toNat : Int) + 1)) → (convert 33 9 (.slice (some ⟨w.heap.size + 1, 0, none⟩) d.length cap)).run Tryz.prog V = .ok (.string ⟨(incF d).toArray⟩) V := by
        rintro V rfl
        rw [hlen]
        refine run_convert_bytes_back _ 33 9 5 ⟨w.heap.size + 1, 0, none⟩ cap (incF d) Tryz.underlying33 Tryz.underlying5 Tryz.underlying9 fun j hj => ?_
        rw [add_mk, Nat.zero_add]
        exact (h3s j _ (List.getElem?_eq_getElem hj)).1
      have hcv2 := hcv _ rfl
      have Hx0 := hid (boxed_at h4 (w.heap.size + 1) p.length (by omega) (.int .u8 ((c.toNat : Int) + 1)))
      have Hi := hid hinc
      have hc0 := hcell.1
      have hc0f := hcell.2
      have hpI : (p.length : Int) < (d.length : Int) := by omega
      have f0 := h4.cell
      have f0f := h4.frozen
      clear hinc hset h3s hcv hst hst2 hi hdi hpc hnine hlen h2 hq hcell h3 hc hw
      rw [show byteV c = Value.int .u8 (c.toNat : Int) from rfl] at hc0 ⊢
      gi_wp2
      exact ⟨(KeepsOthers.setCell _ _ _).trans (KeepsOthers.setCell _ _ _), Hx0.out.set _, (h7.setCell (p := ⟨w.heap.size + 1, p.length, none⟩) (by simp) _).setCell (p := ⟨w.heap.size, 0, none⟩) (Nat.le_refl _) _⟩
    · have hcn : ¬ (c.toNat : Int) < 57 := by
        rw [UInt8.lt_iff_toNat_lt] at hc
        have h57 : (57 : UInt8).toNat = 57 := rfl
        omega
      have h3s := h3.set p.length 48
      have hset : (p ++ c :: List.replicate k 48).set p.length 48 = p ++ 48 :: List.replicate k 48 := by simp
      rw [hset, ← hst2] at h3s
      have hc0 := hcell.1
      have hc0f := hcell.2
      have hpI : (p.length : Int) < (d.length : Int) := by omega
      have H9 : Hid (∀ x ∈ d.drop (d.length - (k + 1)), ¬ x < 57) := by
        show ∀ x ∈ d.drop (d.length - (k + 1)), ¬ x < 57
        intro x hx
        have e : d.length - (k + 1) = p.length := by omega
        rw [e, hpc] at hx
        simp at hx
        rcases hx with rfl | hx
        · exact hc
        · exact hnine x hx
      have Hs := hid h3s
      clear hset h3s hst hst2 hi hdi hpc hnine h2 hq hcell h3 hc
      rw [show byteV c = Value.int .u8 (c.toNat : Int) from rfl] at hc0 ⊢
      gi_wp2
      exact ⟨KeepsOthers.setCell _ _ _, by omega, fun x hx => UInt8.not_lt.1 (H9.out x hx), Hs.out, boxed_at h4 _ _ (by omega) _, boxed_at h5 _ _ (by omega) _, boxed_at h6 _ _ (by omega) _, h7.setCell (p := ⟨w.heap.size + 1, p.length, none⟩) (by simp) _⟩
  case done =>
    rintro D W hD ⟨h1, h2, h3, h4, h5, h6, h7⟩ hK
    have h9 : ∀ x ∈ d, ¬ x < 57 := fun x hx => h2 x (by simpa using hx)
    have hinc := inc_nines d h9
    rw [stB_all] at h3
    have hcv : (convert 33 9 (.slice (some ⟨w.heap.size + 1, 0, none⟩) d.length cap)).run Tryz.prog W = .ok (.string ⟨(List.replicate d.length 48).toArray⟩) W := by
      have := run_convert_bytes_back (P := Tryz.prog) W 33 9 5 ⟨w.heap.size + 1, 0, none⟩ cap (List.replicate d.length 48) Tryz.underlying33 Tryz.underlying5 Tryz.underlying9 (fun j hj => by
        rw [add_mk, Nat.zero_add]
        exact (h3 j _ (List.getElem?_eq_getElem hj)).1)
      rwa [List.length_replicate] at this
    have c2 := h5.cell
    have f0 := h4.cell
    have f0f := h4.frozen
    have Hi := hid hinc
    clear hinc h9 h2 h3
    gi_wp2
    have hK' := (KeepsOthers.setCell W ⟨w.heap.size, 0, none⟩ (.string (⟨#[49]⟩ ++ ⟨Array.replicate d.length 48⟩))).same D _ hK rfl
    have hval : (⟨#[49]⟩ ++ ⟨Array.replicate d.length 48⟩ : ByteArray) = ⟨(incF d).toArray⟩ := by
      rw [Hi.out]
      apply ByteArray.ext
      apply Array.toList_inj.1
      rw [ByteArray.data_append]
      simp
    rw [hval] at hK' ⊢
    have h8 := h4.set (.string ⟨(incF d).toArray⟩)
    refine ⟨by simp, .inl ⟨_, _, rfl, run_takeDeferred hK', ?_⟩⟩
    have hc5 := cell_kept h8.cell (grownBy_putObj' _ D (.deferred none)) (fun r e => by cases e; exact ⟨_, hK', rfl⟩)
    refine ⟨.string ⟨(incF d).toArray⟩, ?_, rfl, (h7.setCell (p := ⟨w.heap.size, 0, none⟩) (Nat.le_refl _) _).trans (belowK_b (w := w1) (by omega) _ D _ _ hD hK' rfl rfl)⟩
    simp [results, Tryz.f34, go_sem, hc5]
  case stop =>
    rintro D k W hD hk ⟨h4, h7⟩ hK
    gi_wp2
    refine ⟨by simp, .inl ⟨_, _, rfl, run_takeDeferred hK, ?_⟩⟩
    have hc5 := cell_kept h4.cell (grownBy_putObj' _ D (.deferred none)) (fun r e => by cases e; exact ⟨_, hK, rfl⟩)
    refine ⟨.string ⟨(incF d).toArray⟩, ?_, rfl, h7.trans (belowK_b (w := w1) (by omega) W D _ _ hD hK rfl rfl)⟩
    simp [results, Tryz.f34, go_sem, hc5]
end Go.Proofs.YtcechioeolokcaaGreatDoor
