/- D0: layer 10: files and acts as lists, in memory; the document's find, without. -/
import Derived.Test.YtmjpkdehkdpdpaaDoorLW
import Derived.Test.YtmjpkdehkdpdpaaDoorR2
import Derived.Lib.SlicesS
namespace Go.V
open Go.RowKit
structure Fl where
  n : ByteArray
  b : List UInt8
structure Ac where
  k : Int
  n : ByteArray
  t : ByteArray
  b : List UInt8
  keep : Nat
  torn : Int
  cut : Int
  m : Int
def flD : WD Fl 2 := ⟨fun f => [.atom (.string f.n), bys f.b], fun _ => rfl, by omega⟩
def acD : WD Ac 8 := ⟨fun a => [.atom (.int .i64 a.k), .atom (.string a.n), .atom (.string a.t), bys a.b, .atom (.int .u64 (a.keep : Int)), .atom (.int .i64 a.torn), .atom (.int .i64 a.cut), .atom (.int .i64 a.m)], fun _ => rfl, by omega⟩
def Fl.l (f : Fl) (u : Value) : List Value := [.string f.n, u]
def Ac.l (a : Ac) (u : Value) : List Value := [.int .i64 a.k, .string a.n, .string a.t, u, .int .u64 (a.keep : Int), .int .i64 a.torn, .int .i64 a.cut, .int .i64 a.m]
theorem fl_open {w : World} {F : Nat → Prop} {f : Fl} {cs : List Value} (h : WdEl w F flD f cs) : ∃ u, cs = f.l u ∧ Rd w F u (bys f.b) := by
  obtain ⟨hl, ha⟩ := h
  match cs, hl with
  | [c0, c1], _ =>
    have h0 := ha 0 c0 _ rfl rfl
    have h1 := ha 1 c1 _ rfl rfl
    unfold Rd at h0
    subst h0
    exact ⟨c1, rfl, h1⟩
theorem fl_mk {w : World} {F : Nat → Prop} {f : Fl} {u : Value} (h : Rd w F u (bys f.b)) : WdEl w F flD f (f.l u) :=
  ⟨rfl, fun j v d hv hd => by
    match j with
    | 0 => simp [Fl.l, flD] at hv hd; subst hv hd; unfold Rd; rfl
    | 1 => simp [Fl.l, flD] at hv hd; subst hv hd; exact h
    | j + 2 => simp [Fl.l] at hv⟩
theorem ac_open {w : World} {F : Nat → Prop} {a : Ac} {cs : List Value} (h : WdEl w F acD a cs) : ∃ u, cs = a.l u ∧ Rd w F u (bys a.b) := by
  obtain ⟨hl, ha⟩ := h
  match cs, hl with
  | [c0, c1, c2, c3, c4, c5, c6, c7], _ =>
    have h0 := ha 0 c0 _ rfl rfl
    have h1 := ha 1 c1 _ rfl rfl
    have h2 := ha 2 c2 _ rfl rfl
    have h3 := ha 3 c3 _ rfl rfl
    have h4 := ha 4 c4 _ rfl rfl
    have h5 := ha 5 c5 _ rfl rfl
    have h6 := ha 6 c6 _ rfl rfl
    have h7 := ha 7 c7 _ rfl rfl
    unfold Rd at h0 h1 h2 h4 h5 h6 h7
    subst h0 h1 h2 h4 h5 h6 h7
    exact ⟨c3, rfl, h3⟩
theorem ac_mk {w : World} {F : Nat → Prop} {a : Ac} {u : Value} (h : Rd w F u (bys a.b)) : WdEl w F acD a (a.l u) :=
  ⟨rfl, fun j v d hv hd => by
    match j with
    | 0 => simp [Ac.l, acD] at hv hd; subst hv hd; unfold Rd; rfl
    | 1 => simp [Ac.l, acD] at hv hd; subst hv hd; unfold Rd; rfl
    | 2 => simp [Ac.l, acD] at hv hd; subst hv hd; unfold Rd; rfl
    | 3 => simp [Ac.l, acD] at hv hd; subst hv hd; exact h
    | 4 => simp [Ac.l, acD] at hv hd; subst hv hd; unfold Rd; rfl
    | 5 => simp [Ac.l, acD] at hv hd; subst hv hd; unfold Rd; rfl
    | 6 => simp [Ac.l, acD] at hv hd; subst hv hd; unfold Rd; rfl
    | 7 => simp [Ac.l, acD] at hv hd; subst hv hd; unfold Rd; rfl
    | j + 8 => simp [Ac.l] at hv⟩
theorem one_fl (f : Fl) (A : Option Addr) (n c : Nat) : ∀ v ∈ f.l (.slice A n c), v.oneCell' = true := by
  intro v hv
  simp [Fl.l] at hv
  rcases hv with rfl | rfl <;> rfl
theorem one_ac (a : Ac) (A : Option Addr) (n c : Nat) : ∀ v ∈ a.l (.slice A n c), v.oneCell' = true := by
  intro v hv
  simp [Ac.l] at hv
  rcases hv with rfl | rfl | rfl | rfl | rfl | rfl | rfl | rfl <;> rfl
/-- the bytes of a file, if it is there -/
def findF : List Fl → ByteArray → Option (List UInt8)
  | [], _ => none
  | f :: l, n => if f.n = n then some f.b else findF l n
instance : DecidableEq ByteArray := inferInstance
def woF (l : List Fl) (n : ByteArray) : List Fl := l.filter fun f => decide (f.n ≠ n)
def gtS (a b : ByteArray) : Bool := !(Op.bytesLess a.toList b.toList || a.toList == b.toList)
/-- 'with': as the document's loop goes -/
def wiS (n : ByteArray) (b : List UInt8) (st : List Fl × Bool) (f : Fl) : List Fl × Bool :=
  if f.n = n then st else if st.2 = false ∧ gtS f.n n = true then (st.1 ++ [⟨n, b⟩, f], true) else (st.1 ++ [f], st.2)
def wiF (l : List Fl) (n : ByteArray) (b : List UInt8) : List Fl × Bool := l.foldl (wiS n b) ([], false)
def withF (l : List Fl) (n : ByteArray) (b : List UInt8) : List Fl := if (wiF l n b).2 then (wiF l n b).1 else (wiF l n b).1 ++ [⟨n, b⟩]
def doneF (l : List Fl) (a : Ac) : List Fl :=
  if a.k = 0 then withF l a.n ((findF l a.n).getD [] ++ a.b) else if a.k = 1 then withF l a.n a.b else if a.k = 2 then (match findF l a.n with
    | some b => withF (woF l a.n) a.t b
    | none => l) else if a.k = 3 then woF l a.n else l
theorem find_skip : ∀ (l : List Fl) (n : ByteArray) (i : Nat), (∀ j f, j < i → l[j]? = some f → f.n ≠ n) → ∀ f, l[i]? = some f → f.n = n → findF l n = some f.b
  | [], _, _, _, f, h, _ => by simp at h
  | x :: l, n, 0, _, f, h, hn => by
    simp at h
    subst h
    exact if_pos hn
  | x :: l, n, i + 1, ha, f, h, hn => by
    have h0 := ha 0 x (by omega) rfl
    rw [findF, if_neg h0]
    exact find_skip l n i (fun j g hj hg => ha (j + 1) g (by omega) (by simpa using hg)) f (by simpa using h) hn
theorem find_none : ∀ (l : List Fl) (n : ByteArray), (∀ (j : Nat) (f : Fl), l[j]? = some f → f.n ≠ n) → findF l n = none
  | [], _, _ => rfl
  | x :: l, n, ha => by
    rw [findF, if_neg (ha 0 x rfl)]
    exact find_none l n (fun j g hg => ha (j + 1) g (by simpa using hg))
theorem take_snocF {α : Type} {l : List α} {i : Nat} {r : α} (h : l[i]? = some r) : l.take (i + 1) = l.take i ++ [r] := by
  rw [List.take_add_one, h]; rfl
end Go.V
namespace Go.Proofs.YtmjpkdehkdpdpaaDoor
open Go.RowKit Go.V
def zFl : List Value := [.string ByteArray.empty, .slice none 0 0]
end Go.Proofs.YtmjpkdehkdpdpaaDoor
