/- S9: contract of the document's block. -/
import Derived.Test.YtigojjdoacfdgaaS8
import Derived.BigRegion
import Derived.IntWalk
namespace Go.V
open Go.RowKit
/-- 'v reads as these words' -/
def RdW (w : World) (F : Nat → Prop) (v : Value) (l : List UInt32) : Prop := ∃ A c, v = .slice A l.length c ∧ l.length ≤ c ∧ c ≤ maxLen ∧ ∀ j (u : Value), (wvs l)[j]? = some u → ∃ g off, A = some ⟨g, off, none⟩ ∧ F g ∧ w.cell? ⟨g, off + j, none⟩ = some u
theorem RdW.keep {w w' : World} {F : Nat → Prop} {v : Value} {l : List UInt32} (h : RdW w F v l) (hb : ∀ b, b < w.heap.size → F b → w'.heap[b]? = w.heap[b]?) : RdW w' F v l := by
  obtain ⟨A, c, hv, h1, h2, h3⟩ := h
  refine ⟨A, c, hv, h1, h2, fun j u hu => ?_⟩
  obtain ⟨g, off, hA, hg, hc⟩ := h3 j u hu
  exact ⟨g, off, hA, hg, (World.cell?_of_block (hb g (lt_of_cell hc) hg)).trans hc⟩
theorem RdW.below {w w' : World} {F : Nat → Prop} {v : Value} {l : List UInt32} (h : RdW w F v l) (hB : Below w.heap.size w w') : RdW w' F v l := h.keep fun b hb _ => hB.block b hb
theorem RdW.of_own {w : World} {base : Nat} {e : TypeId} {v : Value} {n : Nat} {l : List UInt32} (h : w.ownsRow base e 1 v n (wvs l)) : RdW w (fun b => base ≤ b) v l := by
  have hn : n = l.length := by have := h.1; simp [wvs] at this; omega
  subst hn
  rcases h.2 with ⟨rfl, h0⟩ | ⟨g, cap, cur, rfl, hg, hh, h1, h2, h3, h4⟩
  · have : l = [] := List.eq_nil_of_length_eq_zero h0
    subst this
    exact ⟨none, 0, rfl, Nat.le_refl _, by simp [maxLen], fun j u hu => by simp [wvs] at hu⟩
  · refine ⟨_, cap, rfl, h1, h2, fun j u hu => ⟨g, 0, rfl, hg, ?_⟩⟩
    have := h.cells (g := g) rfl j u hu
    rw [add_mk] at this
    exact this
/-- 'append(v, s...)', v the call's own, in a region that draws its order -/
theorem step_app {P : Program} {w : World} {ops : Array Oper} {o : Oper} {a : Act} {K : Act → World → Prop} {Q : Exit → Act → World → Prop} {E : Prop} (s x : Operand) {t e : TypeId} {z : Value} {by_ : Nat} (ht : SlT P t e z by_) (hgd : o.guard = none)
    (ho : o.op = .call { callee := .builtin .append, args := #[s, x], argTypes := #[t, t] })
    {base : Nat} {v : Value} {n : Nat} {xs : List Value} (hs : a.eval s = v) (hown : w.ownsRow base e 1 v n xs)
    {A : Option Addr} {m c : Nat} {news : List Value} (hx : a.eval x = .slice A m c) (hsrc : Src w A m news) (h1 : ∀ u ∈ news, u.oneCell' = true)
    (h63 : n + m ≤ maxLen) (hb : (n + m) * by_ ≤ 140737488355328) (hbase : base ≤ w.heap.size)
    (h : ∀ v' w', w'.ownsRow base e 1 v' (n + m) (xs ++ news) → w.grownBy w' v.ownBlock → K (a.put o.dst v') w') :
    if Region.wanted o (yielded ops a.tmps) = true then Oper.wp P o a w K Q else E := by
  have hw : Region.wanted o (yielded ops a.tmps) = true := by simp [Region.wanted, hgd]
  rw [if_pos hw]
  obtain ⟨v', w', hr, h2, h3, _⟩ := run_append_src (P := P) base t o.type e z by_ ht v n xs hown A m c news hsrc h1 h63 hb hbase
  unfold Oper.wp execOp
  simp only [ho, resolve, invoke, builtin, Sem.run_bind, Sem.run_pure, Result.andThen_ok, List.map_toArray, List.map_cons, List.map_nil, hs, hx, hr]
  exact h v' w' h2 h3
end Go.V
namespace Go.Proofs.Ytigojjdoacfdgaa
open Go.RowKit Go.V
theorem rd_out (b : List UInt8) (i : Nat) : (nb b (4 * i) 4 : Int) % 4294967296 = ((be4 b i).toNat : Int) := by
  have h := u32lt (be4 b i)
  rw [nb4] at *
  omega

/-- what holds while the rounds go -/
def QS (b : List UInt8) (w w' : World) : Prop := Blk w' w.heap.size 39 (wvs (wl b 64)) ∧ Below w.heap.size w w'
def QSx (b : List UInt8) (k : Nat) (x : UInt32) (w w' : World) : Prop := w'.cell? ⟨w.heap.size, k, none⟩ = some (.int .u32 (x.toNat : Int)) ∧ QS b w w'
theorem QS.x {b : List UInt8} {k : Nat} {x : UInt32} {w w' : World} (h : QS b w w') (hx : (wl b 64)[k]? = some x) : QSx b k x w w' := ⟨h.1.cellAt k _ (wvs_at _ _ _ hx), h⟩
theorem QS.drewR {b : List UInt8} {k : Nat} {x : UInt32} {w w' : World} (h : QS b w w') (hx : Hid ((wl b 64)[k]? = some x)) : QSx b k x w w'.drew := QS.x ⟨h.1.drew, h.2.drew⟩ hx.out
theorem QS.belowR {b : List UInt8} {k : Nat} {x : UInt32} {w w' w'' : World} (hB : Below w'.heap.size w' w'') (h : QS b w w') (hx : Hid ((wl b 64)[k]? = some x)) : QSx b k x w w'' := QS.x ⟨h.1.below hB, h.2.trans (hB.mono h.2.size)⟩ hx.out
/-- the state's cells, as long as nothing old is turned -/
def Sx (gs os : Nat) (s : S8) (w w' : World) : Prop :=
  w'.cell? ⟨gs, os, none⟩ = some (.int .u32 (s.a.toNat : Int)) ∧ w'.cell? ⟨gs, os + 1, none⟩ = some (.int .u32 (s.b.toNat : Int)) ∧ w'.cell? ⟨gs, os + 2, none⟩ = some (.int .u32 (s.c.toNat : Int)) ∧ w'.cell? ⟨gs, os + 3, none⟩ = some (.int .u32 (s.d.toNat : Int)) ∧
  w'.cell? ⟨gs, os + 4, none⟩ = some (.int .u32 (s.e.toNat : Int)) ∧ w'.cell? ⟨gs, os + 5, none⟩ = some (.int .u32 (s.f.toNat : Int)) ∧ w'.cell? ⟨gs, os + 6, none⟩ = some (.int .u32 (s.g.toNat : Int)) ∧ w'.cell? ⟨gs, os + 7, none⟩ = some (.int .u32 (s.h.toNat : Int)) ∧ Below w.heap.size w w'
theorem Sx.mk' {gs os : Nat} {s : S8} {w w' : World} (hB : Below w.heap.size w w') (hg : gs < w.heap.size) (hc : Hid (∀ j (u : Value), (wvs (s8l s))[j]? = some u → w.cell? ⟨gs, os + j, none⟩ = some u)) : Sx gs os s w w' := by
  have cc : ∀ j (u : Value), (wvs (s8l s))[j]? = some u → w'.cell? ⟨gs, os + j, none⟩ = some u := fun j u hu => (World.cell?_of_block (hB.block gs hg)).trans (hc.out j u hu)
  exact ⟨cc 0 _ rfl, cc 1 _ rfl, cc 2 _ rfl, cc 3 _ rfl, cc 4 _ rfl, cc 5 _ rfl, cc 6 _ rfl, cc 7 _ rfl, hB⟩
theorem srcW (w : World) (t : TypeId) (l : List Value) : Src (w.alloc (.cells l.toArray t)) (some ⟨w.heap.size, 0, none⟩) l.length l := by
  refine ⟨rfl, fun j u hu => ⟨_, _, rfl, ?_⟩⟩
  rw [Nat.zero_add]
  exact (Blk.new' w t l).cellAt j u hu
end Go.Proofs.Ytigojjdoacfdgaa
