/- I0: layer 12, pure: a snap's bytes, a name, what Save and Load make of a disk at rest. -/
import Derived.Test.YtijhicfegbaadaaDoorN8
import Derived.Test.YtijhicfegbaadaaDoorDU
import Derived.Test.YtijhicfegbaadaaDoorEP
import Derived.Test.YtijhicfegbaadaaDoorS6
namespace Go.V
open Go.RowKit
def newN : ByteArray := ⟨#[46, 110, 101, 119]⟩
def toldF (t : List UInt8) : List UInt8 := (packed t.length ++ t) ++ (shaF (packed t.length ++ t)).take 8
def named12 (p : ByteArray) : Bool := decide (1 ≤ p.size) && decide (p.size ≤ 16) && p.toList.all fun c => decide (97 ≤ c.toNat) && decide (c.toNat ≤ 122)
theorem named_size {p : ByteArray} (h : named12 p = true) : 1 ≤ p.size ∧ p.size ≤ 16 := by
  unfold named12 at h
  simp only [Bool.and_eq_true, decide_eq_true_eq] at h
  exact h.1
def snA (n : ByteArray) (b : List UInt8) : Ac := ⟨0, n, ByteArray.empty, b, 0, 0, 0, 0⟩
def snW (n : ByteArray) (b : List UInt8) : Ac := ⟨1, n, ByteArray.empty, b, 0, 0, 0, 0⟩
def snR (n t : ByteArray) : Ac := ⟨2, n, t, [], 0, 0, 0, 0⟩
def snS : Ac := ⟨4, ByteArray.empty, ByteArray.empty, [], 0, 0, 0, 0⟩
def snC (keep : Nat) (torn cut : Int) : Ac := ⟨5, ByteArray.empty, ByteArray.empty, [], keep, torn, cut, 0⟩
def saveD (D : Dk) (n : ByteArray) (b : List UInt8) : Dk := (doF (doF (doF (doF D (snW (n ++ newN) b)).1 snS).1 (snR (n ++ newN) n)).1 snS).1
def saveR (D : Dk) (n : ByteArray) (b : List UInt8) : Dk × Int := if named12 n = false then (D, 15) else if D.room < (szA (snW (n ++ newN) b) (nowF D) : Int) then (D, 4) else (saveD D n b, 0)
/-- a disk at rest: nothing is pending, its files are fl -/
structure SN (D : Dk) (c T : Nat) (fl : ByteArray → Option (List UInt8)) : Prop where
  u : uq D.syn
  cm : calm D
  e : D.pend = []
  fs : ∀ n, findF D.syn n = fl n
  r : 0 ≤ D.room ∧ D.room ≤ 1048576
  n : D.syn.length ≤ c
  t : tot D.syn ≤ T
theorem SN.now {D : Dk} {c T : Nat} {fl : ByteArray → Option (List UInt8)} (h : SN D c T fl) : nowF D = D.syn := by
  unfold nowF
  rw [h.e]
  rfl
theorem SN.sm {D : Dk} {c T : Nat} {fl : ByteArray → Option (List UInt8)} (h : SN D c T fl) (hc : c ≤ 100000) (hT : T ≤ 100000000) : DkSm D :=
  ⟨by rw [h.e]; have := h.n; simp; omega, by rw [h.e]; have := h.t; unfold totA; simp; omega, ⟨h.r.1, by have := h.r.2; omega⟩, by rw [h.cm.1]; omega⟩
theorem SN.mono {D : Dk} {c T c' T' : Nat} {fl : ByteArray → Option (List UInt8)} (h : SN D c T fl) (hc : c ≤ c') (hT : T ≤ T') : SN D c' T' fl :=
  ⟨h.u, h.cm, h.e, h.fs, h.r, Nat.le_trans h.n hc, Nat.le_trans h.t hT⟩
theorem SN.new (room : Int) (h : 0 ≤ room ∧ room ≤ 1048576) : SN ⟨room, [], [], -1, false⟩ 0 0 (fun _ => none) :=
  ⟨List.nodup_nil, ⟨rfl, rfl⟩, rfl, fun _ => rfl, h, Nat.le_refl _, Nat.le_refl _⟩
theorem new_name (n : ByteArray) : n ++ newN ≠ n := fun h => by
  have := congrArg ByteArray.size h
  rw [ByteArray.size_append] at this
  have e : newN.size = 4 := rfl
  omega
theorem new_nam {n : ByteArray} (h : named12 n = true) : namF (n ++ newN) = true ∧ namF n = true := by
  obtain ⟨h1, h2⟩ := named_size h
  have e : newN.size = 4 := rfl
  unfold namF
  rw [ByteArray.size_append]
  exact ⟨decide_eq_true (by omega), decide_eq_true (by omega)⟩
theorem find_mem12 {l : List Fl} (hu : uq l) {x : ByteArray} {b : List UInt8} (h : (⟨x, b⟩ : Fl) ∈ l) : findF l x = some b := by
  obtain ⟨i, hi, e⟩ := List.mem_iff_getElem.1 h
  exact uq_find hu i ⟨x, b⟩ (by rw [List.getElem?_eq_getElem hi, e])
theorem find_with12 {l : List Fl} (hu : uq l) (x : ByteArray) (b : List UInt8) : findF (withF l x b) x = some b :=
  find_mem12 (uq_with hu x b) ((with_perm l x b).mem_iff.2 (List.mem_cons_self ..))
theorem find_wo12 : ∀ (l : List Fl) (x : ByteArray), findF (woF l x) x = none
  | [], _ => rfl
  | f :: l, x => by
    rw [wo_cons]
    by_cases h : f.n = x
    · rw [if_pos h]; exact find_wo12 l x
    · rw [if_neg h, findF, if_neg h]; exact find_wo12 l x
/-- the steps of a Save that there is room for -/
theorem SN.steps {D : Dk} {c T : Nat} {fl : ByteArray → Option (List UInt8)} (h : SN D c T fl) {n : ByteArray} {b : List UInt8} (hn : named12 n = true) (hr : ¬ D.room < (szA (snW (n ++ newN) b) (nowF D) : Int)) :
    doF D (snW (n ++ newN) b) = ({ D with pend := [snW (n ++ newN) b] }, 0) ∧
    doF { D with pend := [snW (n ++ newN) b] } snS = ({ D with syn := doneF D.syn (snW (n ++ newN) b) }, 0) ∧
    doF { D with syn := doneF D.syn (snW (n ++ newN) b) } (snR (n ++ newN) n) = ({ D with syn := doneF D.syn (snW (n ++ newN) b), pend := [snR (n ++ newN) n] }, 0) ∧
    doF { D with syn := doneF D.syn (snW (n ++ newN) b), pend := [snR (n ++ newN) n] } snS = ({ D with syn := doneF (doneF D.syn (snW (n ++ newN) b)) (snR (n ++ newN) n) }, 0) := by
  obtain ⟨h1, h2⟩ := new_nam hn
  obtain ⟨room, syn, pend, fuse, down⟩ := D
  have he := h.e
  have hc := h.cm
  have hnow := h.now
  dsimp only at he hr hnow
  subst he
  have hcm : ∀ (s : List Fl) (p : List Ac), calm ⟨room, s, p, fuse, down⟩ := fun _ _ => hc
  obtain ⟨hf, hd⟩ := hc
  dsimp only at hf hd
  subst hf hd
  refine ⟨?_, ?_, ?_, ?_⟩
  · rw [do_put (.inr rfl), if_neg (by simp), if_neg (by show ¬ namF (n ++ newN) = false; rw [h1]; simp), if_neg hr, push_calm _ _ (hcm _ _)]
    rfl
  · unfold doF
    rw [if_pos (show snS.k = 4 from rfl), burn_calm _ (hcm _ _)]
    rfl
  · rw [do_find (.inl rfl), if_neg (by simp), if_neg (by
      rintro (e | ⟨_, e⟩)
      · have e : namF (n ++ newN) = false := e
        rw [h1] at e; cases e
      · have e : namF n = false := e
        rw [h2] at e; cases e), if_neg, push_calm _ _ (hcm _ _)]
    · rfl
    · show ¬ (findF (doneF syn (snW (n ++ newN) b)) (n ++ newN)).isNone = true
      have e : doneF syn (snW (n ++ newN) b) = withF syn (n ++ newN) b := rfl
      rw [e, find_with12 h.u]
      simp
  · unfold doF
    rw [if_pos (show snS.k = 4 from rfl), burn_calm _ (hcm _ _)]
    rfl
/-- the files behind a rename of what was just written -/
theorem ren_find {l : List Fl} (hu : uq l) {n : ByteArray} {b : List UInt8} (x : ByteArray) : findF (doneF (doneF l (snW (n ++ newN) b)) (snR (n ++ newN) n)) x = if x = n then some b else if x = n ++ newN then none else findF l x := by
  have e : doneF l (snW (n ++ newN) b) = withF l (n ++ newN) b := rfl
  have e2 : doneF (withF l (n ++ newN) b) (snR (n ++ newN) n) = withF (woF (withF l (n ++ newN) b) (n ++ newN)) n b := by
    have hf : findF (withF l (n ++ newN) b) (snR (n ++ newN) n).n = some b := find_with12 hu _ _
    unfold doneF
    rw [if_neg (show ¬ (snR (n ++ newN) n).k = 0 from by show ¬ (2 : Int) = 0; omega), if_neg (show ¬ (snR (n ++ newN) n).k = 1 from by show ¬ (2 : Int) = 1; omega), if_pos (show (snR (n ++ newN) n).k = 2 from rfl), hf]
    rfl
  have hu2 : uq (woF (withF l (n ++ newN) b) (n ++ newN)) := by
    have := uq_done (uq_with hu (n ++ newN) b) ⟨3, n ++ newN, n, [], 0, 0, 0, 0⟩
    exact this
  rw [e, e2]
  by_cases h1 : x = n
  · rw [if_pos h1, h1, find_with12 hu2]
  · rw [if_neg h1, find_with _ _ _ _ h1]
    by_cases h2 : x = n ++ newN
    · rw [if_pos h2, h2, find_wo12]
    · rw [if_neg h2, find_wo _ _ _ h2, find_with _ _ _ _ h2]
theorem SN.save {D : Dk} {c T : Nat} {fl : ByteArray → Option (List UInt8)} (h : SN D c T fl) {n : ByteArray} {b : List UInt8} (hn : named12 n = true) (hr : ¬ D.room < (szA (snW (n ++ newN) b) (nowF D) : Int)) :
    saveD D n b = { D with syn := doneF (doneF D.syn (snW (n ++ newN) b)) (snR (n ++ newN) n) } ∧ SN (saveD D n b) (c + 2) (T + b.length) (fun x => if x = n then some b else if x = n ++ newN then none else fl x) := by
  obtain ⟨s1, s2, s3, s4⟩ := h.steps hn hr
  have e : saveD D n b = { D with syn := doneF (doneF D.syn (snW (n ++ newN) b)) (snR (n ++ newN) n) } := by
    unfold saveD
    rw [s1, s2, s3, s4]
  refine ⟨e, ?_⟩
  rw [e]
  refine ⟨uq_done (uq_done h.u (snW (n ++ newN) b)) (snR (n ++ newN) n), h.cm, h.e, fun x => ?_, h.r, ?_, ?_⟩
  · rw [← h.fs]
    exact ren_find h.u x
  · have h1 := done_len D.syn (snW (n ++ newN) b)
    have h2 := done_len (doneF D.syn (snW (n ++ newN) b)) (snR (n ++ newN) n)
    have := h.n
    show (doneF (doneF D.syn (snW (n ++ newN) b)) (snR (n ++ newN) n)).length ≤ c + 2
    omega
  · have h1 := done_tot D.syn (snW (n ++ newN) b)
    have h2 := done_tot (doneF D.syn (snW (n ++ newN) b)) (snR (n ++ newN) n)
    have e1 : (snW (n ++ newN) b).b.length = b.length := rfl
    have e2 : (snR (n ++ newN) n).b.length = 0 := rfl
    have := h.t
    show tot (doneF (doneF D.syn (snW (n ++ newN) b)) (snR (n ++ newN) n)) ≤ T + b.length
    omega
theorem SN.fits {D : Dk} {c T : Nat} {fl : ByteArray → Option (List UInt8)} (h : SN D c T fl) {n : ByteArray} {b : List UInt8} (hr : (T : Int) + b.length ≤ D.room) : ¬ D.room < (szA (snW (n ++ newN) b) (nowF D) : Int) := by
  have h1 := szA_le (snW (n ++ newN) b) (nowF D)
  have e1 : (snW (n ++ newN) b).b.length = b.length := rfl
  have := h.t
  rw [h.now] at *
  omega
theorem SN.saved {D : Dk} {c T : Nat} {fl : ByteArray → Option (List UInt8)} (h : SN D c T fl) {n : ByteArray} {b : List UInt8} (hn : named12 n = true) (hr : (T : Int) + b.length ≤ D.room) :
    saveR D n b = (saveD D n b, 0) ∧ (saveD D n b).room = D.room ∧ SN (saveD D n b) (c + 2) (T + b.length) (fun x => if x = n then some b else if x = n ++ newN then none else fl x) := by
  have hf := h.fits (n := n) hr
  obtain ⟨e, hS⟩ := h.save hn hf
  refine ⟨?_, by rw [e], hS⟩
  unfold saveR
  rw [if_neg (by rw [hn]; simp), if_neg hf]
theorem snW_sm {n : ByteArray} {b : List UInt8} (hn : n.size ≤ 1000) (hb : b.length ≤ 1000000) : AcSm (snW n b) := ⟨by show b.length ≤ _; omega, (show (0 : Nat) < 18446744073709551616 by decide), (show (-9223372036854775808 : Int) ≤ 0 ∧ (0 : Int) ≤ 9223372036854775807 by decide), (show (-9223372036854775808 : Int) ≤ 0 ∧ (0 : Int) ≤ 9223372036854775807 by decide), by show n.size ≤ maxLen; simp [maxLen]; omega, by show (0 : Nat) ≤ maxLen; simp [maxLen]⟩
end Go.V
namespace Go.Proofs.YtijhicfegbaadaaDoor
open Go.RowKit Go.V
/-- the text of a file that is there -/
def readS (b : List UInt8) : Option (List UInt8) := match textR 65536 b with
  | .ok (n, sz) => if toldF ((b.drop sz).take n) = b then some ((b.drop sz).take n) else none
  | .error _ => none
def loadF (fl : Option (List UInt8)) (n : ByteArray) : List UInt8 × Int := if named12 n = false then ([], 15) else match fl with
  | none => ([], 13)
  | some b => match readS b with
    | none => ([], 2)
    | some t => (t, 0)
theorem told_len (t : List UInt8) : (toldF t).length = psz t.length + t.length + 8 := by
  unfold toldF
  rw [List.length_append, List.length_append, List.length_take, len_sha, length_packed]
  omega
theorem readS_told {t : List UInt8} (ht : t.length ≤ 65536) : readS (toldF t) = some t := by
  have h1 : readPk (toldF t) = .ok (t.length, psz t.length) := by
    unfold toldF
    rw [List.append_assoc]
    exact readPk_packed _ _ (by omega)
  have h2 : textR 65536 (toldF t) = .ok (t.length, psz t.length) := by
    unfold textR
    rw [h1]
    have hc : cntR 65536 (.ok (t.length, psz t.length)) = .ok (t.length, psz t.length) := if_neg (show ¬ ((65536 : Int) < 0 ∨ (65536 : Int) < (t.length : Int)) by omega)
    rw [hc]
    exact if_neg (by rw [told_len]; omega)
  have h3 : ((toldF t).drop (psz t.length)).take t.length = t := by
    unfold toldF
    rw [List.append_assoc, ← length_packed t.length, List.drop_left, List.take_left]
  unfold readS
  rw [h2]
  dsimp only
  rw [h3, if_pos rfl]
end Go.Proofs.YtijhicfegbaadaaDoor
