/- VC: laws of append: several elements at once; in a region that draws its order; two rows apart. No project text. -/
import Derived.Test.YthdkfcbfjhdpoaaVB
import Derived.Deep.RegionHeld3
import Derived.Laws.BitsAllLaws
namespace Go.V
open Go.RowKit
theorem Src.list (w : World) (us : List Value) (e : TypeId) : Src (w.alloc (.cells us.toArray e)) (some ⟨w.heap.size, 0, none⟩) us.length us := by
  refine ⟨rfl, fun j x hx => ⟨_, _, rfl, ?_⟩⟩
  rw [Nat.zero_add]
  exact (Blk.new' w e us).cellAt j x hx
/-- 'append(v, x, y, ..)': the elements are laid in a block of their own first -/
theorem wp_pushN {P : Program} {w : World} {ops : Array Oper} {rest : List Oper} {o1 o2 : Oper} {a : Act} {Q : Exit → Act → World → Prop} (s : Operand) (d1 : Nat) {t e : TypeId} {z : Value} {by_ : Nat} (ht : SlT P t e z by_) (hg1 : o1.guard = none) (hg2 : o2.guard = none)
    (n : Nat) (parts : List (Nat × Operand)) (ho1 : o1.op = .buildSlice t n parts.toArray) (hd1 : o1.dst = some d1) (ho2 : o2.op = .call { callee := .builtin .append, args := #[s, .tmp d1], argTypes := #[t, t] })
    (vs : List (Nat × Value)) (hp : (parts.map fun x => (x.1, a.eval x.2)) = vs) (us : List Value) (hr : ∀ W : World, (Instr.buildSlice t n vs.toArray).run P W = .ok (.slice (some ⟨W.heap.size, 0, none⟩) us.length us.length) (W.alloc (.cells us.toArray e)))
    (hu : ∀ u ∈ us, u.oneCell' = true) (hsz : d1 < a.tmps.size)
    {base : Nat} {v : Value} {k : Nat} {xs : List Value} (hs : (a.put (some d1) (.slice (some ⟨w.heap.size, 0, none⟩) us.length us.length)).eval s = v) (hown : w.ownsRow base e 1 v k xs)
    (h63 : k + us.length ≤ maxLen) (hb : (k + us.length) * by_ ≤ 140737488355328) (hbase : base ≤ w.heap.size)
    (h : ∀ v' w', w'.ownsRow base e 1 v' (k + us.length) (xs ++ us) → w.grownBy w' v.ownBlock → (v'.ownBlock = v.ownBlock ∨ ∃ g, v'.ownBlock = some g ∧ w.heap.size ≤ g) →
      wpList P ops Q rest ((a.put (some d1) (.slice (some ⟨w.heap.size, 0, none⟩) us.length us.length)).put o2.dst v') w') :
    wpList P ops Q (o1 :: o2 :: rest) a w := by
  refine wpList_plain hg1 fun K hK => ?_
  have e : (parts.toArray.map fun (i, x) => (i, a.eval x)) = vs.toArray := by rw [List.map_toArray, ← hp]
  unfold Oper.wp execOp
  simp only [ho1, e, Sem.run_bind, Sem.run_pure, hr, Result.andThen_ok]
  refine hK _ _ ?_
  rw [hd1]
  refine wp_app (P := P) s (.tmp d1) ht hg2 ho2 hs (hown.alloc _) (A := some ⟨w.heap.size, 0, none⟩) (m := us.length) (c := us.length) ?_ (Src.list w us _) hu h63 hb (by simp; omega) ?_
  · simp [Act.eval, Act.put, hsz]
  · intro v' w' hO hG hat
    refine h v' w' hO ?_ ?_
    · exact ⟨hG.os, hG.tape, hG.output, by have := hG.size; simp at this; omega, fun k hk hne => (hG.block k (by simp; omega) hne).trans (Below.heap_alloc w _ k hk)⟩
    · rcases hat with h | h
      · exact .inl h
      · exact .inr ⟨_, h, by simp⟩
/-- the next state of a row that lies apart from older blocks -/
theorem Ch.growOwn {w0 w w' : World} {v : Value} {base : Nat} (h : Ch (fun b => base ≤ b) w0 w) (hg : w.grownBy w' v.ownBlock) (hv : ∀ k, v.ownBlock = some k → base ≤ k) : Ch (fun b => base ≤ b) w0 w' :=
  h.grow hg (fun k hk => .inl (hv k hk))
/-- a stop for the walk, at the operation that writes slot d -/
def StopV (P : Program) (ops : Array Oper) (Q : Exit → Act → World → Prop) (l : List Oper) (a : Act) (w : World) : Prop := wpList P ops Q l a w
theorem wp_at (d : Nat) {P : Program} {ops : Array Oper} {Q : Exit → Act → World → Prop} {o : Oper} {l : List Oper} {a : Act} {w : World} (_ho : o.dst = some d) (h : StopV P ops Q (o :: l) a w) : wpList P ops Q (o :: l) a w := h
theorem wp_on {P : Program} {ops : Array Oper} {Q : Exit → Act → World → Prop} {l : List Oper} {a : Act} {w : World} (h : wpList P ops Q l a w) : StopV P ops Q l a w := h
theorem u64w (x : Int) (_h1 : -9223372036854775808 ≤ x) (_h2 : x ≤ 9223372036854775807) : ∃ n : Nat, n < 18446744073709551616 ∧ IntKind.u64.wrap x = (n : Int) ∧ n = (x % 18446744073709551616).toNat := by
  refine ⟨(x % 18446744073709551616).toNat, by omega, ?_, rfl⟩
  have : IntKind.u64.wrap x = x % 18446744073709551616 := rfl
  rw [this]
  omega
theorem u8w (n : Nat) : IntKind.u8.wrap (n : Int) = ((n % 256 : Nat) : Int) := by
  have : IntKind.u8.wrap (n : Int) = (n : Int) % 256 := IntKind.wrap_u8' _
  rw [this]; omega
/-- the end of a function of two results, the first of which lies in a cell -/
theorem ret_cell1 {P : Program} {fn : Func} {R : Ending → World → Prop} {a : Act} {w : World} {p q : Tmp} {ty : TypeId} (hf : fn.results = #[.cell p ty, .tmp q]) {b f : Nat} (hp : a.tmps.getD p undef = .pointer (some ⟨b, f, none⟩)) {u : Value} (hq : a.tmps.getD q undef = u) {l : List Value} (hr : w.rangeAt b f l)
    {d : TypeDesc} (hu : P.underlying ty = some d) (hd : d.isRow = true) (hi : (P.info? ty).map (·.size) = some l.length) (hdf : a.defers = []) (h : R (.returned (.tuple #[.agg l.toArray, u])) w) : bodyPost P fn R .ret a w := by
  refine bodyPost_ret (v := .tuple #[.agg l.toArray, u]) ?_ hdf h
  have hp' : a.tmps[p]?.getD undef = .pointer (some ⟨b, f, none⟩) := by simpa using hp
  have hq' : a.tmps[q]?.getD undef = u := by simpa using hq
  simp [results, hf, hp', hq', asAddr, run_loadVar_mid w b f ty l d hr hu hd hi]
/-- a new variable, in a region that draws its order: the world behind it under a new name -/
theorem step_new {P : Program} {w : World} {ops : Array Oper} {o : Oper} {a : Act} {Q : Exit → Act → World → Prop} {K : Act → World → Prop} {E : Prop} (t : TypeId) (hgd : o.guard = none) (ho : o.op = .alloc t) {z : List Value} (hz : (P.info? t).map (·.zero) = some (some (.agg z.toArray)))
    (h : ∀ g w', w.heap.size ≤ g → g < w'.heap.size → Blk w' g t z → Below w.heap.size w w' → K (a.put o.dst (.pointer (some ⟨g, 0, none⟩))) w') : if Region.wanted o (yielded ops a.tmps) = true then Oper.wp P o a w K Q else E := by
  have hw : Region.wanted o (yielded ops a.tmps) = true := by simp [Region.wanted, hgd]
  rw [if_pos hw]
  cases hq : P.info? t with
  | none => simp [hq] at hz
  | some i =>
    have hz' : i.zero = some (.agg z.toArray) := by simpa [hq] using hz
    have hr : (Instr.alloc t true (.tuple #[])).run P w = .ok (.pointer (some ⟨w.heap.size, 0, none⟩)) (w.alloc (.cells z.toArray t)) := by
      simp [Instr.alloc, zeroValue, typeInfo, hq, hz', newVar, newRow, Value.cells]
    unfold Oper.wp execOp
    simp only [ho, Sem.run_bind, Sem.run_pure, hr, Result.andThen_ok]
    exact h w.heap.size _ (Nat.le_refl _) (by simp) (Blk.new' w t z) ((Below.refl _ _).alloc (Nat.le_refl _) _)
/-- '[]T{}', in a region that draws its order -/
theorem step_bs0 {P : Program} {w : World} {ops : Array Oper} {o : Oper} {a : Act} {Q : Exit → Act → World → Prop} {K : Act → World → Prop} {E : Prop} (t e : TypeId) (hgd : o.guard = none) (ho : o.op = .buildSlice t 0 #[]) (hr : ∀ W : World, (Instr.buildSlice t 0 #[]).run P W = .ok (.slice (some ⟨W.heap.size, 0, none⟩) 0 0) (W.alloc (.cells #[] e)))
    (h : ∀ v w', w'.ownsRow w.heap.size e 1 v 0 [] → Below w.heap.size w w' → K (a.put o.dst v) w') : if Region.wanted o (yielded ops a.tmps) = true then Oper.wp P o a w K Q else E := by
  have hw : Region.wanted o (yielded ops a.tmps) = true := by simp [Region.wanted, hgd]
  rw [if_pos hw]
  unfold Oper.wp execOp
  have e0 : (Array.map (fun (x : Nat × Operand) => (x.1, a.eval x.2)) #[]) = #[] := by simp
  simp only [ho, e0, Sem.run_bind, Sem.run_pure, hr, Result.andThen_ok]
  exact h _ _ (World.ownsRow_made w #[] 0 (Nat.le_refl _) (by simp [maxLen]) rfl) ((Below.refl _ _).alloc (Nat.le_refl _) _)
/-- a row and a block of another type lie apart -/
theorem own_apart {w : World} {base g : Nat} {t e : TypeId} {v : Value} {n : Nat} {xs cs : List Value} (h : w.ownsRow base e 1 v n xs) (hb : Blk w g t cs) (hne : t ≠ e) : v.ownBlock ≠ some g := by
  rcases h.2 with ⟨rfl, _⟩ | ⟨k, cap, cur, rfl, _, hh, _⟩
  · intro e; cases e
  · intro he
    simp [Value.ownBlock] at he
    subst he
    unfold Blk at hb
    rw [hb] at hh
    injection hh with hh
    injection hh with h1 h2
    exact hne h2
end Go.V
