/- V: words for memory: what a value reads as, what may change, append's laws over it. No project text. -/
import Derived.Test.YtnhhbbjkeekneaaGreatDoorRows
import Derived.WalkKit
import Derived.ProofKit
import Derived.BigQuiet
import Derived.Deep.QuietTactic
import Derived.Laws.CopyOwn
import Derived.SizedLaws
import Derived.WalkSpells
import Derived.WalkLawsBesides
import Derived.LoopTactic
import Derived.Maps.AppendAt
import Derived.StillTailTactics
namespace Go.V
open Go.RowKit

inductive Dat where
  | atom (v : Value)
  | sl (n : Nat) (ds : List Dat)

mutual
/-- 'v reads in w as d, over blocks of F alone' -/
def Rd (w : World) (F : Nat → Prop) (v : Value) : Dat → Prop
  | .atom u => v = u
  | .sl n ds => ∃ A c, v = .slice A n c ∧ n ≤ c ∧ c ≤ maxLen ∧ (n = 0 → ds = []) ∧ (ds ≠ [] → ∃ g off, A = some ⟨g, off, none⟩ ∧ F g ∧ RdC w F g off ds)
/-- 'the cells of block g from off on read as ds' -/
def RdC (w : World) (F : Nat → Prop) (g off : Nat) : List Dat → Prop
  | [] => True
  | d :: ds => (∃ u, w.cell? ⟨g, off, none⟩ = some u ∧ Rd w F u d) ∧ RdC w F g (off + 1) ds
end
/-- what may change: blocks of G, and new ones -/
structure Ch (G : Nat → Prop) (w w' : World) : Prop where
  os : w'.os = w.os
  tape : w'.tape = w.tape
  output : w'.output = w.output
  size : w.heap.size ≤ w'.heap.size
  block : ∀ k, k < w.heap.size → ¬ G k → w'.heap[k]? = w.heap[k]?

theorem Ch.refl (G : Nat → Prop) (w : World) : Ch G w w := ⟨rfl, rfl, rfl, Nat.le_refl _, fun _ _ _ => rfl⟩
theorem Ch.trans {G : Nat → Prop} {a b c : World} (h : Ch G a b) (k : Ch G b c) : Ch G a c :=
  ⟨k.os.trans h.os, k.tape.trans h.tape, k.output.trans h.output, Nat.le_trans h.size k.size, fun i hi hg => (k.block i (Nat.lt_of_lt_of_le hi h.size) hg).trans (h.block i hi hg)⟩

theorem lt_of_cell {w : World} {g off : Nat} {u : Value} (h : w.cell? ⟨g, off, none⟩ = some u) : g < w.heap.size := by
  unfold World.cell? at h
  rcases Nat.lt_or_ge g w.heap.size with hl | hl
  · exact hl
  · simp [Array.getElem?_eq_none hl] at h

mutual
theorem Rd.keep {w w' : World} {F F' : Nat → Prop} (hF : ∀ b, b < w.heap.size → F b → F' b ∧ w'.heap[b]? = w.heap[b]?) : ∀ {d : Dat} {v : Value}, Rd w F v d → Rd w' F' v d
  | .atom u, v, h => by unfold Rd at h ⊢; exact h
  | .sl n ds, v, h => by
    unfold Rd at h ⊢
    obtain ⟨A, c, hv, h1, h2, h3, h4⟩ := h
    refine ⟨A, c, hv, h1, h2, h3, fun hn => ?_⟩
    obtain ⟨g, off, hA, hg, hc⟩ := h4 hn
    cases ds with
    | nil => exact absurd rfl hn
    | cons d ds =>
      have hlt : g < w.heap.size := by
        have hc' := hc
        unfold RdC at hc'
        obtain ⟨⟨u, hu, _⟩, _⟩ := hc'
        exact lt_of_cell hu
      exact ⟨g, off, hA, (hF g hlt hg).1, RdC.keep hF hg hc⟩
theorem RdC.keep {w w' : World} {F F' : Nat → Prop} (hF : ∀ b, b < w.heap.size → F b → F' b ∧ w'.heap[b]? = w.heap[b]?) {g : Nat} (hg : F g) : ∀ {ds : List Dat} {off : Nat}, RdC w F g off ds → RdC w' F' g off ds
  | [], off, h => by unfold RdC; trivial
  | d :: ds, off, h => by
    unfold RdC at h ⊢
    obtain ⟨⟨u, hu, hr⟩, hc⟩ := h
    exact ⟨⟨u, (World.cell?_of_block (hF g (lt_of_cell hu) hg).2).trans hu, Rd.keep hF hr⟩, RdC.keep hF hg hc⟩
end

theorem Rd.ch {w w' : World} {F G : Nat → Prop} {v : Value} {d : Dat} (h : Rd w F v d) (hc : Ch G w w') (hd : ∀ b, F b → ¬ G b) : Rd w' F v d :=
  Rd.keep (fun b hb hF => ⟨hF, hc.block b hb (hd b hF)⟩) h
theorem Rd.weak {w : World} {F F' : Nat → Prop} {v : Value} {d : Dat} (h : Rd w F v d) (hF : ∀ b, b < w.heap.size → F b → F' b) : Rd w F' v d :=
  Rd.keep (fun b hb hf => ⟨hF b hb hf, rfl⟩) h
def nob : Nat → Prop := fun _ => False
theorem Rd.ext {w w' : World} {F : Nat → Prop} {v : Value} {d : Dat} (h : Rd w F v d) (hc : Ch nob w w') : Rd w' F v d := h.ch hc (fun _ _ h => h)
theorem Ch.drewN {G : Nat → Prop} {a w : World} (h : Ch G a w) (n : Nat) : Ch G a (w.drewN n) := ⟨h.os, h.tape, h.output, h.size, h.block⟩
theorem Ch.drew {G : Nat → Prop} {a w : World} (h : Ch G a w) : Ch G a w.drew := ⟨h.os, h.tape, h.output, h.size, h.block⟩
theorem Ch.below {w w' : World} (h : Ch nob w w') : Below w.heap.size w w' := ⟨h.os, h.tape, h.output, h.size, fun k hk => h.block k hk (fun h => h)⟩
theorem Ch.of_below {w w' : World} (h : Below w.heap.size w w') : Ch nob w w' := ⟨h.os, h.tape, h.output, h.size, fun k hk _ => h.block k hk⟩
/-- bytes as data -/
def byteD (c : UInt8) : Dat := .atom (.int .u8 (c.toNat : Int))
def byteV (c : UInt8) : Value := .int .u8 (c.toNat : Int)
def bys (bs : List UInt8) : Dat := .sl bs.length (bs.map byteD)
def bvs (bs : List UInt8) : List Value := bs.map byteV
theorem RdC.bytes {w : World} {F : Nat → Prop} {g : Nat} : ∀ {bs : List UInt8} {off : Nat}, RdC w F g off (bs.map byteD) → ∀ j (u : Value), (bvs bs)[j]? = some u → w.cell? ⟨g, off + j, none⟩ = some u
  | [], off, _, j, u, hu => by simp [bvs] at hu
  | c :: bs, off, h, j, u, hu => by
    simp only [List.map_cons] at h
    unfold RdC at h
    obtain ⟨⟨x, hx, hr⟩, hc⟩ := h
    unfold byteD Rd at hr
    subst hr
    cases j with
    | zero => simp [bvs, byteV] at hu; subst hu; exact hx
    | succ j =>
      have := RdC.bytes hc j u (by simpa [bvs] using hu)
      rw [show off + (j + 1) = off + 1 + j from by omega]
      exact this
theorem RdC.of_bytes {w : World} {F : Nat → Prop} {g : Nat} : ∀ {bs : List UInt8} {off : Nat}, (∀ j (u : Value), (bvs bs)[j]? = some u → w.cell? ⟨g, off + j, none⟩ = some u) → RdC w F g off (bs.map byteD)
  | [], off, _ => by simp only [List.map_nil]; unfold RdC; trivial
  | c :: bs, off, h => by
    simp only [List.map_cons]
    unfold RdC
    refine ⟨⟨byteV c, h 0 _ (by simp [bvs]), ?_⟩, RdC.of_bytes fun j u hu => ?_⟩
    · unfold byteD Rd; rfl
    · rw [show off + 1 + j = off + (j + 1) from by omega]
      exact h (j + 1) u (by simpa [bvs] using hu)
/-- a slice of bytes opened: its shape, its cells -/
theorem Rd.bytes {w : World} {F : Nat → Prop} {v : Value} {bs : List UInt8} (h : Rd w F v (bys bs)) :
    ∃ A c, v = .slice A bs.length c ∧ bs.length ≤ c ∧ c ≤ maxLen ∧ ∀ j (u : Value), (bvs bs)[j]? = some u → ∃ g off, A = some ⟨g, off, none⟩ ∧ F g ∧ w.cell? ⟨g, off + j, none⟩ = some u := by
  unfold bys Rd at h
  obtain ⟨A, c, hv, h1, h2, _, h4⟩ := h
  refine ⟨A, c, hv, h1, h2, fun j u hu => ?_⟩
  have hne : bs.map byteD ≠ [] := by
    intro he
    have : bs = [] := by simpa using he
    subst this
    simp [bvs] at hu
  obtain ⟨g, off, hA, hg, hc⟩ := h4 hne
  exact ⟨g, off, hA, hg, hc.bytes j u hu⟩
theorem Rd.of_own {w : World} {base : Nat} {e : TypeId} {v : Value} {n : Nat} {bs : List UInt8} (h : w.ownsRow base e 1 v n (bvs bs)) : Rd w (fun b => base ≤ b) v (bys bs) := by
  have hn : n = bs.length := by have := h.1; simp [bvs] at this; omega
  subst hn
  unfold bys Rd
  rcases h.2 with ⟨rfl, h0⟩ | ⟨g, cap, cur, rfl, hg, hh, h1, h2, h3, h4⟩
  · have : bs = [] := List.eq_nil_of_length_eq_zero h0
    subst this
    exact ⟨none, 0, rfl, Nat.le_refl _, by simp [maxLen], fun _ => rfl, fun h => absurd rfl h⟩
  · refine ⟨_, cap, rfl, h1, h2, fun h => by rw [List.eq_nil_of_length_eq_zero h]; rfl, fun _ => ⟨g, 0, rfl, hg, RdC.of_bytes fun j u hu => ?_⟩⟩
    have := h.cells (g := g) rfl j u hu
    unfold Addr.add at this
    rw [Nat.zero_add]
    split at this
    · rename_i hj; subst hj; exact this
    · simpa using this
end Go.V
namespace Go.V
open Go.RowKit
/-- the tables' facts on a slice type t of one-cell elements e, their zero value z, their bytes by -/
structure SlT (P : Program) (t e : TypeId) (z : Value) (by_ : Nat) : Prop where
  sl : P.underlying t = some (.slice e)
  inf : ∃ i, P.info? e = some i ∧ i.zero = some z ∧ i.size = 1 ∧ i.bytes = by_
  one : z.cells.size = 1
theorem SlT.of {P : Program} {t e : TypeId} {z : Value} {by_ : Nat} (h : P.underlying t = some (.slice e)) (h2 : (P.info? e).map (fun i => (i.zero, i.size, i.bytes)) = some (some z, 1, by_)) (h3 : z.cells.size = 1) : SlT P t e z by_ :=
  ⟨h, info_parts h2, h3⟩

/-- what an append or a copy reads: m cells, the slice nil or not -/
def Src (w : World) (A : Option Addr) (m : Nat) (news : List Value) : Prop :=
  news.length = m ∧ ∀ j (u : Value), news[j]? = some u → ∃ g off, A = some ⟨g, off, none⟩ ∧ w.cell? ⟨g, off + j, none⟩ = some u
theorem add_mk (g off j : Nat) : (⟨g, off, none⟩ : Addr).add j = ⟨g, off + j, none⟩ := by
  unfold Addr.add
  split
  · rename_i h; subst h; rfl
  · rfl
theorem Src.at {w : World} {a : Addr} {m : Nat} {news : List Value} (h : Src w (some a) m news) : ∀ j (u : Value), news[j]? = some u → w.cell? (a.add j) = some u := by
  intro j u hu
  obtain ⟨g, off, ha, hc⟩ := h.2 j u hu
  injection ha with ha
  subst ha
  rw [add_mk]
  exact hc
theorem Src.none0 {w : World} {m : Nat} {news : List Value} (h : Src w none m news) : m = 0 ∧ news = [] := by
  cases news with
  | nil => exact ⟨h.1.symm, rfl⟩
  | cons u us =>
    obtain ⟨g, off, ha, _⟩ := h.2 0 u rfl
    cases ha
theorem Src.one (w : World) (u : Value) (e : TypeId) : Src (w.alloc (.cells #[u] e)) (some ⟨w.heap.size, 0, none⟩) 1 [u] := by
  refine ⟨rfl, fun j x hx => ⟨_, _, rfl, ?_⟩⟩
  cases j with
  | zero =>
    simp at hx
    subst hx
    exact cell_of_one (heap_alloc_new w _)
  | succ j => simp at hx
theorem Src.of_bytes {w : World} {F : Nat → Prop} {v : Value} {bs : List UInt8} (h : Rd w F v (bys bs)) : ∃ A c, v = .slice A bs.length c ∧ Src w A bs.length (bvs bs) := by
  obtain ⟨A, c, hv, _, _, hc⟩ := h.bytes
  exact ⟨A, c, hv, by simp [bvs], fun j u hu => by obtain ⟨g, off, h1, _, h2⟩ := hc j u hu; exact ⟨g, off, h1, h2⟩⟩
theorem oneCell_bvs (bs : List UInt8) : ∀ u ∈ bvs bs, u.oneCell' = true := by
  intro u hu
  simp [bvs] at hu
  obtain ⟨c, _, rfl⟩ := hu
  rfl

section
variable {P : Program} {w : World}
theorem run_append_src (base : Nat) (t ty e : TypeId) (z : Value) (by_ : Nat) (ht : SlT P t e z by_) (v : Value) (n : Nat) (xs : List Value) (hown : w.ownsRow base e 1 v n xs)
    (A : Option Addr) (m c : Nat) (news : List Value) (hs : Src w A m news) (h1 : ∀ u ∈ news, u.oneCell' = true) (h63 : n + m ≤ maxLen) (hb : (n + m) * by_ ≤ 140737488355328) (hbase : base ≤ w.heap.size) :
    ∃ v' w', (Builtin.append_ #[t, t] ty #[v, .slice A m c]).run P w = .ok v' w' ∧ w'.ownsRow base e 1 v' (n + m) (xs ++ news) ∧ w.grownBy w' v.ownBlock ∧ (v'.ownBlock = v.ownBlock ∨ v'.ownBlock = some w.heap.size) := by
  obtain ⟨i, hi, hz, hsz, hby⟩ := ht.inf
  cases A with
  | none =>
    obtain ⟨rfl, rfl⟩ := hs.none0
    refine ⟨v, w, ?_, by simpa using hown, World.grownBy.refl w _, .inl rfl⟩
    rcases hown.2 with ⟨rfl, rfl⟩ | ⟨g, cap, cur, rfl, _, _, hnc, _⟩
    · simp [Builtin.append_, run_underlying ht.sl, sizeOf, typeInfo, hi, Builtin.lenOf, Builtin.firstCells]
    · simp [Builtin.append_, run_underlying ht.sl, sizeOf, typeInfo, hi, Builtin.lenOf, Builtin.firstCells, hnc, storeCells]
  | some a =>
    obtain ⟨v', w', r1, r2, r3, _, r5⟩ := run_append_own_at (P := P) w base t ty e i z 1 by_ ht.sl hi hz hsz hby ht.one (by omega) v n xs hown a m c news (by simpa using hs.1) hs.at h1 h63 hb hbase
    exact ⟨v', w', r1, r2, r3, r5⟩

/-- 'append(v, s...)', v the call's own -/
theorem wp_app {ops : Array Oper} {rest : List Oper} {o : Oper} {a : Act} {Q : Exit → Act → World → Prop} (s x : Operand) {t e : TypeId} {z : Value} {by_ : Nat} (ht : SlT P t e z by_) (hgd : o.guard = none)
    (ho : o.op = .call { callee := .builtin .append, args := #[s, x], argTypes := #[t, t] })
    {base : Nat} {v : Value} {n : Nat} {xs : List Value} (hs : a.eval s = v) (hown : w.ownsRow base e 1 v n xs)
    {A : Option Addr} {m c : Nat} {news : List Value} (hx : a.eval x = .slice A m c) (hsrc : Src w A m news) (h1 : ∀ u ∈ news, u.oneCell' = true)
    (h63 : n + m ≤ maxLen) (hb : (n + m) * by_ ≤ 140737488355328) (hbase : base ≤ w.heap.size)
    (h : ∀ v' w', w'.ownsRow base e 1 v' (n + m) (xs ++ news) → w.grownBy w' v.ownBlock → (v'.ownBlock = v.ownBlock ∨ v'.ownBlock = some w.heap.size) → wpList P ops Q rest (a.put o.dst v') w') :
    wpList P ops Q (o :: rest) a w := by
  refine wpList_plain hgd fun K hK => ?_
  obtain ⟨v', w', hr, h2, h3, h4⟩ := run_append_src (P := P) base t o.type e z by_ ht v n xs hown A m c news hsrc h1 h63 hb hbase
  unfold Oper.wp execOp
  simp only [ho, resolve, invoke, builtin, Sem.run_bind, Sem.run_pure, Result.andThen_ok, List.map_toArray, List.map_cons, List.map_nil, hs, hx, hr]
  exact hK _ _ (h v' w' h2 h3 h4)

theorem run_buildSlice1 (t e : TypeId) (z u : Value) (by_ : Nat) (ht : SlT P t e z by_) (huc : u.cells = #[u]) :
    (Instr.buildSlice t 1 #[(0, u)]).run P w = .ok (.slice (some ⟨w.heap.size, 0, none⟩) 1 1) (w.alloc (.cells #[u] e)) := by
  obtain ⟨i, hi, hz, hsz, hby⟩ := ht.inf
  have h1 := ht.one
  simp [Instr.buildSlice, run_underlying ht.sl, sizeOf, typeInfo, hi, hsz, zeroValue, hz, Instr.fill, huc, h1]
  have hr : (Sem.run P (newRow e #[u]) w) = .ok ⟨w.heap.size, 0, none⟩ (w.alloc (.cells #[u] e)) := by simp [newRow]
  have e1 : (Array.map (fun x => z.cells[x % 1]!) (Array.range 1)).setIfInBounds 0 u = #[u] := by
    rw [show Array.range 1 = #[0] from rfl]
    simp
  rw [e1, hr]
  rfl

/-- 'append(v, x)': one element, laid in a block of its own first -/
theorem wp_push {ops : Array Oper} {rest : List Oper} {o1 o2 : Oper} {a : Act} {Q : Exit → Act → World → Prop} (s x : Operand) (d1 : Nat) {t e : TypeId} {z : Value} {by_ : Nat} (ht : SlT P t e z by_) (hg1 : o1.guard = none) (hg2 : o2.guard = none)
    (ho1 : o1.op = .buildSlice t 1 #[(0, x)]) (hd1 : o1.dst = some d1) (ho2 : o2.op = .call { callee := .builtin .append, args := #[s, .tmp d1], argTypes := #[t, t] })
    {u : Value} (hx : a.eval x = u) (hu : u.oneCell' = true) (huc : u.cells = #[u]) (hsz : d1 < a.tmps.size)
    {base : Nat} {v : Value} {n : Nat} {xs : List Value} (hs : (a.put (some d1) (.slice (some ⟨w.heap.size, 0, none⟩) 1 1)).eval s = v) (hown : w.ownsRow base e 1 v n xs)
    (h63 : n + 1 ≤ maxLen) (hb : (n + 1) * by_ ≤ 140737488355328) (hbase : base ≤ w.heap.size)
    (h : ∀ v' w', w'.ownsRow base e 1 v' (n + 1) (xs ++ [u]) → w.grownBy w' v.ownBlock → (v'.ownBlock = v.ownBlock ∨ ∃ g, v'.ownBlock = some g ∧ w.heap.size ≤ g) →
      wpList P ops Q rest ((a.put (some d1) (.slice (some ⟨w.heap.size, 0, none⟩) 1 1)).put o2.dst v') w') :
    wpList P ops Q (o1 :: o2 :: rest) a w := by
  refine wpList_plain hg1 fun K hK => ?_
  unfold Oper.wp execOp
  simp only [ho1]
  have hrun := run_buildSlice1 (P := P) (w := w) t e z u by_ ht huc
  simp [hx, hrun, Oper.upon, Result.andThen]
  refine hK _ _ ?_
  rw [hd1]
  refine wp_app (P := P) s (.tmp d1) ht hg2 ho2 hs (hown.alloc _) (A := some ⟨w.heap.size, 0, none⟩) (m := 1) (c := 1) ?_ (Src.one w u e) (by intro y hy; simp at hy; subst hy; exact hu) h63 hb (by simp; omega) ?_
  · simp [Act.eval, Act.put, hsz]
  · intro v' w' hO hG hat
    refine h v' w' hO ?_ ?_
    · exact ⟨hG.os, hG.tape, hG.output, by have := hG.size; simp at this; omega, fun k hk hne => (hG.block k (by simp; omega) hne).trans (Below.heap_alloc w _ k hk)⟩
    · rcases hat with h | h
      · exact .inl h
      · exact .inr ⟨_, h, by simp⟩
end
theorem grown_setRow (w : World) (g : Nat) (cs : Array Value) : w.grownBy (w.setRow g cs) (some g) :=
  ⟨rfl, rfl, rfl, by simp [World.setRow], fun k _ hk => setRow_other w g k cs (fun e => hk (by rw [e]))⟩
/-- 'copy(d, s)', d and s of one length L, d the head of a row that is known whole -/
theorem wp_copy0 {P : Program} {w : World} {ops : Array Oper} {rest : List Oper} {o : Oper} {a : Act} {Q : Exit → Act → World → Prop} (d s : Operand) {t e : TypeId} {z : Value} {by_ : Nat} (ht : SlT P t e z by_) (hgd : o.guard = none)
    (ho : o.op = .call { callee := .builtin .copy, args := #[d, s], argTypes := #[t, t] })
    {g L cap : Nat} (hd : a.eval d = .slice (some ⟨g, 0, none⟩) L cap) {A : Option Addr} {c : Nat} (hs : a.eval s = .slice A L c)
    {cur : Array Value} (hg : w.heap[g]? = some (.cells cur e (0, 0))) {news : List Value} (hsrc : Src w A L news) (h1 : ∀ u ∈ news, u.oneCell' = true) (hfit : L ≤ cur.size)
    (h : ∀ w', w'.heap[g]? = some (.cells (news ++ cur.toList.drop L).toArray e (0, 0)) → w.grownBy w' (some g) → wpList P ops Q rest (a.put o.dst (goInt L)) w') :
    wpList P ops Q (o :: rest) a w := by
  obtain ⟨i, hi, _, hsz, _⟩ := ht.inf
  have hz : (P.info? e).map (·.size) = some 1 := by rw [hi]; simp [hsz]
  cases A with
  | none =>
    obtain ⟨rfl, rfl⟩ := hsrc.none0
    refine wpList_copy_nothing hgd d s t t ho e ht.sl hz _ _ _ _ _ _ hd hs (by simp) ?_
    exact h w (by simpa using hg) (World.grownBy.refl w _)
  | some ad =>
    have hl := hsrc.1
    refine wpList_copy_own hgd d s t t ho e ht.sl hz g 0 _ _ ad _ _ hd hs cur e hg news (by simp [hl]) hsrc.at (by omega) h1 ?_
    have := h (w.setRow g (cur.toList.take 0 ++ (news ++ cur.toList.drop (0 + news.length))).toArray) (by rw [setRow_heap w g _ _ e _ hg]; simp [hl]) (grown_setRow w g _)
    rw [hl] at this ⊢
    exact this
/-- the block that a slice lies in -/
def ownB (v : Value) : Nat → Prop := fun b => v.ownBlock = some b
theorem Ch.grow {G : Nat → Prop} {w0 w w' : World} {row : Option Nat} (h : Ch G w0 w) (hg : w.grownBy w' row) (hr : ∀ k, row = some k → G k ∨ w0.heap.size ≤ k) : Ch G w0 w' :=
  ⟨hg.os.trans h.os, hg.tape.trans h.tape, hg.output.trans h.output, Nat.le_trans h.size hg.size, fun k hk hG =>
    (hg.block k (Nat.lt_of_lt_of_le hk h.size) (fun e => by rcases hr k e.symm with h1 | h1; exact hG h1; omega)).trans (h.block k hk hG)⟩
theorem Ch.below_of {G : Nat → Prop} {base : Nat} {w0 w w1 : World} (h : Below base w0 w) (hc : Ch G w w1) (hG : ∀ k, G k → base ≤ k) (hb : base ≤ w.heap.size) : Below base w0 w1 :=
  h.trans ⟨hc.os, hc.tape, hc.output, hc.size, fun k hk => hc.block k (by omega) (fun e => by have := hG k e; omega)⟩
theorem Ch.weaken {G G' : Nat → Prop} {a b : World} (h : Ch G a b) (hG : ∀ k, k < a.heap.size → G k → G' k) : Ch G' a b :=
  ⟨h.os, h.tape, h.output, h.size, fun k hk hg => h.block k hk (fun e => hg (hG k hk e))⟩
theorem Rd.below {w w' : World} {F : Nat → Prop} {v : Value} {d : Dat} (h : Rd w F v d) (hB : Below w.heap.size w w') : Rd w' F v d := h.ext (.of_below hB)
theorem Rd.src {w : World} {F : Nat → Prop} {A : Option Addr} {n c : Nat} {bs : List UInt8} (h : Rd w F (.slice A n c) (bys bs)) : Src w A bs.length (bvs bs) := by
  obtain ⟨A', c', hv, hs⟩ := Src.of_bytes h
  injection hv with h1 h2 h3
  subst h1
  exact hs
theorem own_shape {w : World} {base : Nat} {e : TypeId} {v : Value} {n : Nat} {xs : List Value} (h : w.ownsRow base e 1 v n xs) : ∃ A c, v = .slice A n c := by
  rcases h.2 with ⟨rfl, rfl⟩ | ⟨g, cap, cur, rfl, _⟩
  · exact ⟨_, _, rfl⟩
  · exact ⟨_, _, rfl⟩
theorem Rd.shape {w : World} {F : Nat → Prop} {v : Value} {bs : List UInt8} (h : Rd w F v (bys bs)) : ∃ A c, v = .slice A bs.length c := by
  obtain ⟨A, c, h, _⟩ := h.bytes
  exact ⟨A, c, h⟩
theorem Rd.of_own' {w : World} {base : Nat} {e : TypeId} {v : Value} {n : Nat} {bs : List UInt8} (h : w.ownsRow base e 1 v n (bvs bs)) {F : Nat → Prop} (hF : ∀ b, base ≤ b → b < w.heap.size → F b) : Rd w F v (bys bs) :=
  (Rd.of_own h).weak fun b hb h => hF b h hb
theorem heap_alloc_same (w : World) (o : Obj) (k : Nat) (x : Obj) (h : w.heap[k]? = some x) : (w.alloc o).heap[k]? = some x := by
  rw [Below.heap_alloc _ _ _ (lt_of_block h)]; exact h
theorem hid {p : Prop} (h : p) : Hid p := h
/-- a byte of a slice, by its place -/
theorem Rd.byteAt {w : World} {F : Nat → Prop} {A : Option Addr} {n c : Nat} {bs : List UInt8} (h : Rd w F (.slice A n c) (bys bs)) (j : Nat) (hj : j < bs.length) :
    ∃ g off, A = some ⟨g, off, none⟩ ∧ F g ∧ w.cell? ⟨g, off + j, none⟩ = some (.int .u8 (bs[j].toNat : Int)) := by
  obtain ⟨A', c', hv, _, _, hc⟩ := h.bytes
  injection hv with h1 h2 h3
  subst h1
  exact hc j (byteV bs[j]) (by simp [bvs, hj])
theorem Rd.drewN {w : World} {F : Nat → Prop} {v : Value} {d : Dat} (h : Rd w F v d) (n : Nat) : Rd (w.drewN n) F v d := h.ext ((Ch.refl _ _).drewN n)
theorem Rd.drew {w : World} {F : Nat → Prop} {v : Value} {d : Dat} (h : Rd w F v d) : Rd w.drew F v d := h.ext ((Ch.refl _ _).drew)
theorem RdC.drop {w : World} {F : Nat → Prop} {g : Nat} : ∀ (l : Nat) {ds : List Dat} {off : Nat}, RdC w F g off ds → RdC w F g (off + l) (ds.drop l)
  | 0, ds, off, h => by simpa using h
  | l + 1, [], off, h => by simp only [List.drop_nil]; unfold RdC; trivial
  | l + 1, d :: ds, off, h => by
    unfold RdC at h
    rw [show off + (l + 1) = off + 1 + l from by omega, List.drop_succ_cons]
    exact RdC.drop l h.2
theorem RdC.take {w : World} {F : Nat → Prop} {g : Nat} : ∀ (l : Nat) {ds : List Dat} {off : Nat}, RdC w F g off ds → RdC w F g off (ds.take l)
  | 0, ds, off, h => by simp only [List.take_zero]; unfold RdC; trivial
  | l + 1, [], off, h => by simp only [List.take_nil]; unfold RdC; trivial
  | l + 1, d :: ds, off, h => by
    unfold RdC at h
    rw [List.take_succ_cons]
    unfold RdC
    exact ⟨h.1, RdC.take l h.2⟩
/-- a piece of a slice of one-cell elements -/
theorem Rd.piece {w : World} {F : Nat → Prop} {A : Option Addr} {n c : Nat} {ds : List Dat} (h : Rd w F (.slice A n c) (.sl n ds)) (hl : ds.length = n) {l m : Nat} (h1 : l ≤ m) (h2 : m ≤ n) :
    Rd w F (sliced A l m c 1) (.sl (m - l) ((ds.drop l).take (m - l))) := by
  unfold Rd at h ⊢
  obtain ⟨A', c', hv, hc1, hc2, _, h4⟩ := h
  injection hv with e1 e2 e3
  subst e1; subst e3
  refine ⟨_, c - l, rfl, by omega, by omega, fun h0 => by rw [h0]; rfl, fun hne => ?_⟩
  have hlt : l < m := by
    rcases Nat.lt_or_ge l m with h | h
    · exact h
    · exact absurd (by rw [show m - l = 0 from by omega]; rfl) hne
  obtain ⟨g, off, hA, hg, hc⟩ := h4 (by intro e; rw [e] at hl; simp at hl; omega)
  subst hA
  refine ⟨g, off + l, ?_, hg, (hc.drop l).take _⟩
  rw [if_neg (by omega)]
  simp [add_mk]
theorem elem_of {P : Program} {t e : TypeId} {z : Value} {by_ : Nat} (ht : SlT P t e z by_) : P.elem t = e := by simp [Program.elem, ht.sl]
theorem size_of {P : Program} {t e : TypeId} {z : Value} {by_ : Nat} (ht : SlT P t e z by_) (W : World) : (sizeOf e).run P W = .ok 1 W := by
  obtain ⟨i, hi, _, hs, _⟩ := ht.inf
  simp [sizeOf, typeInfo, hi, hs]
theorem run_cut {P : Program} {t e : TypeId} {z : Value} {by_ : Nat} (ht : SlT P t e z by_) (A : Option Addr) (n c : Nat) (l h : Int) (h0 : 0 ≤ l) (h1 : l ≤ h) (h2 : h ≤ c) (W : World) :
    (Instr.slice t (.slice A n c) (some (.int .i64 l)) (some (.int .i64 h)) none).run P W = .ok (sliced A l.toNat h.toNat c 1) W := by
  have hu : P.underlying t = some (.slice (P.elem t)) := by rw [elem_of ht]; exact ht.sl
  rw [run_slice_lh (ht := hu) (h0 := h0) (h1 := h1) (h2 := h2), elem_of ht, size_of ht]
  rfl
theorem run_cut_l {P : Program} {t e : TypeId} {z : Value} {by_ : Nat} (ht : SlT P t e z by_) (A : Option Addr) (n c : Nat) (l : Int) (h0 : 0 ≤ l) (h1 : l ≤ n) (W : World) :
    (Instr.slice t (.slice A n c) (some (.int .i64 l)) none none).run P W = .ok (sliced A l.toNat n c 1) W := by
  have hu : P.underlying t = some (.slice (P.elem t)) := by rw [elem_of ht]; exact ht.sl
  rw [run_slice_l (ht := hu) (h0 := h0) (h1 := h1), elem_of ht, size_of ht]
  rfl
theorem run_cut_h {P : Program} {t e : TypeId} {z : Value} {by_ : Nat} (ht : SlT P t e z by_) (A : Option Addr) (n c : Nat) (h : Int) (h0 : 0 ≤ h) (h1 : h ≤ c) (W : World) :
    (Instr.slice t (.slice A n c) none (some (.int .i64 h)) none).run P W = .ok (sliced A 0 h.toNat c 1) W := by
  have hu : P.underlying t = some (.slice (P.elem t)) := by rw [elem_of ht]; exact ht.sl
  rw [run_slice_h (ht := hu) (h0 := h0) (h2 := h1), elem_of ht, size_of ht]
  rfl
theorem Rd.pieceB {w : World} {F : Nat → Prop} {A : Option Addr} {n c : Nat} {bs : List UInt8} (h : Rd w F (.slice A n c) (bys bs)) {l m : Nat} (h1 : l ≤ m) (h2 : m ≤ bs.length) :
    Rd w F (sliced A l m c 1) (bys ((bs.drop l).take (m - l))) := by
  have hn : n = bs.length := by
    obtain ⟨A', c', e⟩ := h.shape
    injection e
  subst hn
  have := Rd.piece (ds := bs.map byteD) h (by simp) h1 h2
  unfold bys
  rw [List.map_take, List.map_drop, List.length_take, List.length_drop, show min (m - l) (bs.length - l) = m - l from by omega]
  exact this
theorem Rd.cap {w : World} {F : Nat → Prop} {A : Option Addr} {n c : Nat} {bs : List UInt8} (h : Rd w F (.slice A n c) (bys bs)) : n = bs.length ∧ bs.length ≤ c := by
  obtain ⟨A', c', e, h1, _⟩ := h.bytes
  injection e with e1 e2 e3
  subst e3
  exact ⟨e2, h1⟩
/-- 's[l:h]', 's[l:]', 's[:h]' of bytes: some slice, whatever the world, that reads as the piece -/
theorem Rd.cut {P : Program} {t e : TypeId} {z : Value} {by_ : Nat} (ht : SlT P t e z by_) {w : World} {F : Nat → Prop} {A : Option Addr} {n c : Nat} {bs : List UInt8} (hr : Rd w F (.slice A n c) (bys bs)) (l h : Int) (h0 : 0 ≤ l) (h1 : l ≤ h) (h2 : h ≤ bs.length) :
    ∃ A' m c', (∀ W, (Instr.slice t (.slice A n c) (some (.int .i64 l)) (some (.int .i64 h)) none).run P W = .ok (.slice A' m c') W) ∧ Rd w F (.slice A' m c') (bys ((bs.drop l.toNat).take (h.toNat - l.toNat))) :=
  ⟨_, _, _, fun W => run_cut ht A n c l h h0 h1 (by have := hr.cap.2; omega) W, hr.pieceB (by omega) (by omega)⟩
theorem Rd.cut_l {P : Program} {t e : TypeId} {z : Value} {by_ : Nat} (ht : SlT P t e z by_) {w : World} {F : Nat → Prop} {A : Option Addr} {n c : Nat} {bs : List UInt8} (hr : Rd w F (.slice A n c) (bys bs)) (l : Int) (h0 : 0 ≤ l) (h2 : l ≤ bs.length) :
    ∃ A' m c', (∀ W, (Instr.slice t (.slice A n c) (some (.int .i64 l)) none none).run P W = .ok (.slice A' m c') W) ∧ Rd w F (.slice A' m c') (bys (bs.drop l.toNat)) := by
  have hn := hr.cap.1
  refine ⟨_, _, _, fun W => run_cut_l ht A n c l h0 (by omega) W, ?_⟩
  have := hr.pieceB (l := l.toNat) (m := n) (by omega) (by omega)
  rw [List.take_of_length_le (by simp; omega)] at this
  exact this
theorem Rd.cut_h {P : Program} {t e : TypeId} {z : Value} {by_ : Nat} (ht : SlT P t e z by_) {w : World} {F : Nat → Prop} {A : Option Addr} {n c : Nat} {bs : List UInt8} (hr : Rd w F (.slice A n c) (bys bs)) (h : Int) (h0 : 0 ≤ h) (h2 : h ≤ bs.length) :
    ∃ A' m c', (∀ W, (Instr.slice t (.slice A n c) none (some (.int .i64 h)) none).run P W = .ok (.slice A' m c') W) ∧ Rd w F (.slice A' m c') (bys (bs.take h.toNat)) := by
  refine ⟨_, _, _, fun W => run_cut_h ht A n c h h0 (by have := hr.cap.2; omega) W, ?_⟩
  have := hr.pieceB (l := 0) (m := h.toNat) (by omega) (by omega)
  rw [List.drop_zero, Nat.sub_zero] at this
  exact this
/-- a region that draws: its first n operations only read; the rest is forced. The world under one name. -/
theorem wp_region_tail {P : Program} {id : Nat} {Q : Exit → Act → World → Prop} {a : Act} {w : World} {l : List Oper} (n : Nat) (hm : P.follows .mixedOrders = true) (hB : Region.lexTailB .any l.toArray n = true)
    (h : wpStill P l.toArray w.drew (fun a' => wpList P l.toArray Q (l.drop n) a' w.drew) (l.take n) a) : (Code.region id l.toArray true).wp P Q a w :=
  wp_region_still_tail n hm hB h
theorem Ch.belowR {G : Nat → Prop} {a b c : World} (h : Ch G a b) (hB : Below b.heap.size b c) : Ch G a c :=
  h.trans ((Ch.of_below hB).weaken fun _ _ e => e.elim)
theorem drop_take_int {α : Type} (bs : List α) (k sz n : Nat) : (bs.drop ((k : Int) + (sz : Int)).toNat).take (((k : Int) + (sz : Int) + (n : Int)).toNat - ((k : Int) + (sz : Int)).toNat) = ((bs.drop k).drop sz).take n := by
  rw [show ((k : Int) + (sz : Int) + (n : Int)).toNat - ((k : Int) + (sz : Int)).toNat = n from by omega, show ((k : Int) + (sz : Int)).toNat = k + sz from by omega, List.drop_drop]
theorem below_of_drew {B : Nat} {w w' : World} (h : Below B w.drew w') : Below B w w' := ⟨h.os, h.tape, h.output, h.size, h.block⟩
/-- closers: what is returned, part by part -/
theorem ret_i {k : IntKind} {a b : Int} (h : a = b) : Ending.returned (.int k a) = .returned (.int k b) := by rw [h]
theorem ret_b {a b : Bool} (h : a = b) : Ending.returned (.bool a) = .returned (.bool b) := by rw [h]
theorem ret_iii {k l m : IntKind} {a b c d e f : Int} (h : a = b) (h2 : c = d) (h3 : e = f) : Ending.returned (.tuple #[.int k a, .int l c, .int m e]) = .returned (.tuple #[.int k b, .int l d, .int m f]) := by rw [h, h2, h3]
theorem wrap64_id {x : Int} (h1 : -9223372036854775808 ≤ x) (h2 : x ≤ 9223372036854775807) : wrap64 x = x := by
  unfold wrap64; omega
theorem Rd.nil (w : World) (F : Nat → Prop) : Rd w F (.slice none 0 0) (bys []) := by
  unfold bys Rd
  exact ⟨none, 0, rfl, Nat.le_refl _, by simp [maxLen], fun _ => rfl, fun h => absurd rfl h⟩
/-- a name for a value -/
theorem nm {α : Sort _} (a : α) : ∃ x, x = a := ⟨_, rfl⟩
/-- of one block: that it is none of before -/
theorem sk {b c : Nat} (h : c ≤ b) : ∀ k, some b = some k → c ≤ k := fun k hk => by injection hk with hk; omega
end Go.V
