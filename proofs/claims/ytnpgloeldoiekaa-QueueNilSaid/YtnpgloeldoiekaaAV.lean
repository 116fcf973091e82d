/- AV: lists of one struct, guarded struct literals, lists of replies. No project text. -/
import Derived.Test.YtnpgloeldoiekaaA0
import Derived.Test.YtnpgloeldoiekaaQA
import Derived.Test.YtnpgloeldoiekaaLW
namespace Go.V
open Go.RowKit
/-- '[]T{x}', x a struct -/
theorem wp_bs1W {P : Program} {w : World} {ops : Array Oper} {rest : List Oper} {o : Oper} {a : Act} {Q : Exit → Act → World → Prop} (x : Operand) {t e : TypeId} {z : List Value} {sz by_ : Nat} (ht : SlW P t e z sz by_) (hgd : o.guard = none) (ho : o.op = .buildSlice t 1 #[(0, x)]) {us : List Value} (hx : a.eval x = .agg us.toArray) (hu : us.length = sz)
    (h : wpList P ops Q rest (a.put o.dst (.slice (some ⟨w.heap.size, 0, none⟩) 1 1)) (w.alloc (.cells us.toArray e))) : wpList P ops Q (o :: rest) a w := by
  refine wpList_plain hgd fun K hK => ?_
  unfold Oper.wp execOp
  have e1 : (Array.map (fun (x : Nat × Operand) => (x.1, a.eval x.2)) #[(0, x)]) = #[(0, .agg us.toArray)] := by simp [hx]
  simp only [ho, e1, Sem.run_bind, Sem.run_pure, run_bsW ht us hu, Result.andThen_ok]
  exact hK _ _ h
/-- a struct literal, guarded or not -/
theorem wp_bldw {P : Program} {w : World} {ops : Array Oper} {rest : List Oper} {o : Oper} {a : Act} {Q : Exit → Act → World → Prop} (t : TypeId) (parts : List (Nat × Operand)) (hw : Region.wanted o (yielded ops a.tmps) = true) (ho : o.op = .build t parts.toArray) (vs : List (Nat × Value)) (hp : (parts.map fun x => (x.1, a.eval x.2)) = vs) {cells : Array Value} (hr : ∀ W : World, (Instr.build t vs.toArray).run P W = .ok (.agg cells) W)
    (h : wpList P ops Q rest (a.put o.dst (.agg cells)) w) : wpList P ops Q (o :: rest) a w := by
  refine wpList_step fun K hK => ?_
  rw [if_pos hw]
  have e : (parts.toArray.map fun (i, x) => (i, a.eval x)) = vs.toArray := by rw [List.map_toArray, ← hp]
  unfold Oper.wp execOp
  simp only [ho, e, Sem.run_bind, Sem.run_pure, hr, Result.andThen_ok]
  exact hK _ _ h
end Go.V
namespace Go.Proofs.Ytnpgloeldoiekaa
open Go.RowKit Go.V
theorem rqs_one {w : World} {F : Nat → Prop} {g : Nat} {t : TypeId} {r : Rq} {u : Value} (hb : Blk w g t (r.l u)) (hu : Rd w F u (bys r.g)) (hg : F g) : Rd w F (.slice (some ⟨g, 0, none⟩) 1 1) (rqs [r]) := by
  unfold rqs Rd
  refine ⟨_, 1, rfl, Nat.le_refl _, by simp [maxLen], fun h => by simp at h, fun _ => ⟨g, 0, rfl, hg, ?_⟩⟩
  rw [List.flatMap_singleton]
  exact rdC_rq.2 ⟨u, hb.whole, hu⟩
def rpD : WD Rp 5 := ⟨fun r => [.atom (.int .i64 r.c), .atom (.int .i64 r.s), .atom (.int .i64 r.k), .atom (.bool r.o), .atom (.int .i64 r.n)], fun _ => rfl, by omega⟩
theorem rp_open {w : World} {F : Nat → Prop} {r : Rp} {cs : List Value} (h : WdEl w F rpD r cs) : cs = r.l := by
  obtain ⟨hl, ha⟩ := h
  match cs, hl with
  | [c0, c1, c2, c3, c4], _ =>
    have h0 := ha 0 c0 _ rfl rfl
    have h1 := ha 1 c1 _ rfl rfl
    have h2 := ha 2 c2 _ rfl rfl
    have h3 := ha 3 c3 _ rfl rfl
    have h4 := ha 4 c4 _ rfl rfl
    unfold Rd at h0 h1 h2 h3 h4
    subst h0 h1 h2 h3 h4
    rfl
theorem rp_mk {w : World} {F : Nat → Prop} {r : Rp} : WdEl w F rpD r r.l :=
  ⟨rfl, fun j v d hv hd => by
    match j with
    | 0 => simp [Rp.l, rpD] at hv hd; subst hv hd; unfold Rd; rfl
    | 1 => simp [Rp.l, rpD] at hv hd; subst hv hd; unfold Rd; rfl
    | 2 => simp [Rp.l, rpD] at hv hd; subst hv hd; unfold Rd; rfl
    | 3 => simp [Rp.l, rpD] at hv hd; subst hv hd; unfold Rd; rfl
    | 4 => simp [Rp.l, rpD] at hv hd; subst hv hd; unfold Rd; rfl
    | j + 5 => simp [Rp.l] at hv⟩
end Go.Proofs.Ytnpgloeldoiekaa
