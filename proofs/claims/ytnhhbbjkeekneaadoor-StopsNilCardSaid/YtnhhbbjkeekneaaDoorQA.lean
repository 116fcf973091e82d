/- QA: several texts in one (Xw U0 Q1 W5 W8 A0 Q2 Q3 QA). -/
import Derived.Test.YtnhhbbjkeekneaaDoorZ2
import Derived.Test.YtnhhbbjkeekneaaDoorCq
import Derived.Test.YtnhhbbjkeekneaaDoorVA
import Derived.Test.YtnhhbbjkeekneaaDoorM1
import Derived.Test.YtnhhbbjkeekneaaDoorN3
import Derived.Test.YtnhhbbjkeekneaaDoorRB
/- Xw: layer 19, pure: what the laws' wakes tell. No project text. -/
namespace Go.Proofs.YtnhhbbjkeekneaaDoor
open Go.RowKit Go.V
def mS (i : Nat) : Mg := ⟨4, (i : Int), 0, 2 + (i : Int), 0, List.replicate 32 0, [], []⟩
theorem mS_in {i : Nat} (h : i < 2) : MgIn (mS i) := ⟨by show in64w 4; unfold in64w; omega, by show in64w (i : Int); unfold in64w; omega, by show in64w 0; unfold in64w; omega, by show in64w (2 + (i : Int)); unfold in64w; omega, by show in64w 0; unfold in64w; omega, rfl⟩
theorem mS_sm (i : Nat) : MgSm (mS i) := ⟨by show 0 ≤ 1000000; omega, by show 0 ≤ 1000; omega, by intro t ht; cases ht⟩
theorem mS_err {i : Nat} (h : i < 2) : errS ks17 (mS i) = 0 := by
  match i, h with
  | 0, _ => rw [errS_M rfl (by decide)]; decide
  | 1, _ => rw [errS_M rfl (by decide)]; decide
  | i + 2, h => exact absurd h (by omega)
def sS19 (i : Nat) : List UInt8 := slS ks17 (mS i)
theorem sS19_len {i : Nat} (h : i < 2) : (sS19 i).length ≤ 100 := by
  unfold sS19 slS
  rw [List.length_append, len_tag, len_by2 rfl]
  match i, h with
  | 0, _ => decide
  | 1, _ => decide
  | i + 2, h => exact absurd h (by omega)
theorem has19 (i : Nat) (h : i < 2) : hasB 15 (i : Int) = true := by
  unfold hasB
  rw [Bool.and_eq_true, decide_eq_true_eq, Int.toNat_natCast]
  refine ⟨by omega, ?_⟩
  have : ∀ j : Fin 2, mbit 15 j.val = true := by decide +kernel
  exact this ⟨i, h⟩
theorem op_W19 {i : Nat} (h : i < 2) : opOf ks17 ⟨0, 15⟩ (sS19 i) = .ok (mS i) := by
  have h1 := op_sl (ks := ks17) (m := mS i) rfl (mS_err h)
  have hb : hasB 15 (mS i).f = true := has19 i h
  unfold opOf sS19
  rw [h1]
  exact if_pos hb
/-- who wants what behind i of them -/
def wS (i : Nat) : List Nat := match i with
  | 0 => w0W
  | 1 => w0W.set 0 3
  | _ => (w0W.set 0 3).set 1 4
theorem ts_W19 {i : Nat} (h : i < 2) : tsE ks17 ⟨0, 15⟩ (wS i) (sS19 i) = 0 ∧ tsW ks17 ⟨0, 15⟩ (wS i) (sS19 i) = wS (i + 1) := by
  unfold tsE tsW
  rw [op_W19 h]
  match i, h with
  | 0, _ => exact ⟨by decide, by decide⟩
  | 1, _ => exact ⟨by decide, by decide⟩
  | i + 2, h => exact absurd h (by omega)
theorem gr_W19 : grW (wS 2) 0 (somN 0 15) = 2 ∧ grW (wS 2) 0 (enoN 0 15) = -1 ∧ cntW (wS 2) 3 = 1 := by
  refine ⟨by decide +kernel, by decide +kernel, by decide +kernel⟩
end Go.Proofs.YtnhhbbjkeekneaaDoor
/- U0: layer 14, pure: the service's values as lists, what an op comes to, their text. No project text. -/
namespace Go.V
open Go.RowKit
structure Cl where
  t : Bool
  n : Int
structure Ok where
  k : Int
  y : Int
  a : Int
  b : Int
def Cl.l (c : Cl) : List Value := [.bool c.t, .int .i64 c.n]
def Ok.l (o : Ok) : List Value := [.int .i64 o.k, .int .i64 o.y, .int .i64 o.a, .int .i64 o.b]
def cvs (c : List Cl) : List Value := c.flatMap Cl.l
def nmC (c : Cl) : Option Int := if c.t = true then some c.n else none
/-- what counts of values -/
def nmF (c : List Cl) : List (Option Int) := c.map nmC
def goodK (o : Ok) : Prop := (0 ≤ o.y ∧ o.y ≤ 15) ∧ 1 ≤ o.k ∧ o.k ≤ 5
instance (o : Ok) : Decidable (goodK o) := by unfold goodK; exact inferInstance
/-! the text -/
end Go.V
/- Q1: layer 7: requests; contracts of Right, formed, by the program and by the document. -/
namespace Go.V
open Go.RowKit
/-- a request: whose, its number, kind, key, A, B, its signature -/
structure Rq where
  c : Int
  s : Int
  k : Int
  y : Int
  a : Int
  b : Int
  g : List UInt8
def Rq.l (r : Rq) (u : Value) : List Value := [.int .i64 r.c, .int .i64 r.s, .int .i64 r.k, .int .i64 r.y, .int .i64 r.a, .int .i64 r.b, u]
def Rq.v (r : Rq) (u : Value) : Value := .agg #[.int .i64 r.c, .int .i64 r.s, .int .i64 r.k, .int .i64 r.y, .int .i64 r.a, .int .i64 r.b, u]
end Go.V
namespace Go.Proofs.YtnhhbbjkeekneaaDoor
open Go.RowKit Go.V
end Go.Proofs.YtnhhbbjkeekneaaDoor
/- W5: layer 6: wakes, same, the law ViewsCounts. -/
namespace Go.Proofs.YtnhhbbjkeekneaaDoor
open Go.RowKit Go.V
end Go.Proofs.YtnhhbbjkeekneaaDoor
/- W8: layer 6: contracts of Next, by the program and by the document; the law ViewsNext. -/
namespace Go.Proofs.YtnhhbbjkeekneaaDoor
open Go.RowKit Go.V
end Go.Proofs.YtnhhbbjkeekneaaDoor
/- A0: layer 15, pure: worlds, what a batch does. No project text. -/
namespace Go.Proofs.YtnhhbbjkeekneaaDoor
open Go.RowKit Go.V
/-- a reply -/
structure Rp where
  c : Int
  s : Int
  k : Int
  o : Bool
  n : Int
structure Vw where
  n : Int
  m : Nat
deriving DecidableEq
/-- a world -/
structure Wo where
  s : Int
  f : Int
  v : Vw
  u : Vw
  c : List Cl
  a : List Rp
def Rp.l (r : Rp) : List Value := [.int .i64 r.c, .int .i64 r.s, .int .i64 r.k, .bool r.o, .int .i64 r.n]
def Vw.l (x : Vw) : List Value := [.int .i64 x.n, .int .u16 (x.m : Int)]
def Wo.l (W : Wo) : List Value := [.int .i64 W.s, .int .i64 W.f, .int .i64 W.v.n, .int .u16 (W.v.m : Int), .int .i64 W.u.n, .int .u16 (W.u.m : Int)] ++ (cvs W.c ++ W.a.flatMap Rp.l)
/-- what counts of it -/
structure We where
  s : Int
  f : Int
  v : Vw
  u : Vw
  c : List (Option Int)
  a : List Rp
def Wo.e (W : Wo) : We := ⟨W.s, W.f, W.v, W.u, nmF W.c, W.a⟩
/-! sizes -/
/-! what was done isn't done again -/
/-! the view -/
end Go.Proofs.YtnhhbbjkeekneaaDoor
/- Q2: layer 7: contracts of formed, by the program and by the document. -/
namespace Go.Proofs.YtnhhbbjkeekneaaDoor
open Go.RowKit Go.V
end Go.Proofs.YtnhhbbjkeekneaaDoor
/- Q3: layer 7: a request's text: contracts of Text, by the program and by the document. -/
namespace Go.V
open Go.RowKit
def Rq.four (r : Rq) : List UInt8 := [UInt8.ofNat r.c.toNat, UInt8.ofNat r.s.toNat, UInt8.ofNat r.k.toNat, UInt8.ofNat r.y.toNat]
def Rq.text (r : Rq) : List UInt8 := (r.four ++ packed (foldN r.a)) ++ packed (foldN r.b)
end Go.V
namespace Go.Proofs.YtnhhbbjkeekneaaDoor
open Go.RowKit Go.V
end Go.Proofs.YtnhhbbjkeekneaaDoor
/- QA: layer 7: lists of requests in memory, rising lists. No project text. -/
namespace Go.V
open Go.RowKit
section
variable {P : Program} {w : World} {ops : Array Oper} {rest : List Oper} {o : Oper} {a : Act} {Q : Exit → Act → World → Prop}
end
/-- what a row of requests holds, their signatures in blocks of F -/
def RqX (w : World) (F : Nat → Prop) : List Rq → List Value → Prop
  | [], xs => xs = []
  | r :: l, xs => ∃ u ys, xs = r.l u ++ ys ∧ Rd w F u (bys r.g) ∧ RqX w F l ys
theorem RqX.keep {w w' : World} {F F' : Nat → Prop} (hF : ∀ b, b < w.heap.size → F b → F' b ∧ w'.heap[b]? = w.heap[b]?) : ∀ {l : List Rq} {xs : List Value}, RqX w F l xs → RqX w' F' l xs
  | [], _, h => h
  | _ :: _, _, ⟨u, ys, h1, h2, h3⟩ => ⟨u, ys, h1, h2.keep hF, h3.keep hF⟩
theorem RqX.snoc {w : World} {F : Nat → Prop} {r : Rq} {u : Value} (hu : Rd w F u (bys r.g)) : ∀ {l : List Rq} {xs : List Value}, RqX w F l xs → RqX w F (l ++ [r]) (xs ++ r.l u)
  | [], _, h => by
    have h : _ = [] := h
    subst h
    exact ⟨u, [], by simp, hu, rfl⟩
  | x :: l, _, ⟨u', ys, h1, h2, h3⟩ => ⟨u', ys ++ r.l u, by rw [h1, List.append_assoc], h2, RqX.snoc hu h3⟩
/-- rising numbers: of two of one client the later one has the greater -/
def ris (l : List Rq) : Prop := l.Pairwise (fun x y => x.c = y.c → x.s < y.s)
instance (l : List Rq) : Decidable (ris l) := by unfold ris; infer_instance
end Go.V
