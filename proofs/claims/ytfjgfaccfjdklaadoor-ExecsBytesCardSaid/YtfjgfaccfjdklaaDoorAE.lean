/- AE: layer 15: values, replies, views, worlds are the same as themselves. -/
import Derived.Test.YtfjgfaccfjdklaaDoorA0
import Derived.ChangeKeysEq
namespace Go.V
open Go.RowKit
theorem eqItems_same {P : Program} (d : Nat) (e : TypeId) (c : Nat) (xs : Array Value) : ∀ (is : List Nat) (W : World), (∀ i ∈ is, ∃ v, (∀ W, (part e xs (i * c)).run P W = .ok v W) ∧ (∀ W, (Op.equalIn d e v v).run P W = .ok true W)) → (Op.eqItems d e c xs xs is).run P W = .ok true W
  | [], W, _ => by simp [Op.eqItems]
  | i :: is, W, h => by
    obtain ⟨v, h1, h2⟩ := h i (by simp)
    simp only [Op.eqItems, Sem.run_bind, h1, h2, Result.andThen_ok, Bool.not_true, Bool.false_eq_true, if_false]
    exact eqItems_same d e c xs is W (fun j hj => h j (by simp [hj]))
/-- an array is the same as itself -/
theorem eqArr_same {P : Program} (d : Nat) {t e : TypeId} {n s : Nat} (xs : Array Value) (hu : P.underlying t = some (.array n e)) (hs : (P.info? e).map (·.size) = some s) (h : ∀ i, i < n → ∃ v, (∀ W, (part e xs (i * s)).run P W = .ok v W) ∧ (∀ W, (Op.equalIn d e v v).run P W = .ok true W)) (W : World) :
    (Op.equalIn (d + 1) t (.agg xs) (.agg xs)).run P W = .ok true W := by
  cases hq : P.info? e with
  | none => simp [hq] at hs
  | some i =>
    have hi : P.cellsOf e = s := by
      have : i.size = s := by simpa [hq] using hs
      simp [Program.cellsOf, hq, this]
    rw [run_equalIn_array W d xs xs hu hq, hi]
    exact eqItems_same d e s xs _ W (fun j hj => h j (by simpa using hj))
theorem part_agg {P : Program} {e : TypeId} {s : Nat} (hag : ∀ W : World, (isAgg e).run P W = .ok true W) (hs : (P.info? e).map (·.size) = some s) (l : List Value) (off : Nat) (W : World) : (part e l.toArray off).run P W = .ok (.agg ((l.drop off).take s).toArray) W := by
  cases hq : P.info? e with
  | none => simp [hq] at hs
  | some i =>
    have hi : i.size = s := by simpa [hq] using hs
    simp [part, hag, sizeOf, typeInfo, hq, hi]
theorem eqFields_same {P : Program} (d : Nat) (xs : Array Value) : ∀ (fs : List Field) (W : World), (∀ f ∈ fs, ∃ v, (∀ W, (part f.type xs f.offset).run P W = .ok v W) ∧ (∀ W, (Op.equalIn d f.type v v).run P W = .ok true W)) → (Op.eqFields d xs xs fs).run P W = .ok true W
  | [], W, _ => by simp [Op.eqFields]
  | f :: fs, W, h => by
    obtain ⟨v, h1, h2⟩ := h f (by simp)
    have ih := eqFields_same d xs fs W (fun g hg => h g (by simp [hg]))
    unfold Op.eqFields
    split
    · simp only [Sem.run_bind, h1, h2, Result.andThen_ok, Bool.not_true, Bool.false_eq_true, if_false]
      exact ih
    · exact ih
theorem part_one {P : Program} {e : TypeId} (hag : ∀ W : World, (isAgg e).run P W = .ok false W) (l : List Value) (off : Nat) (v : Value) (hv : l[off]? = some v) (W : World) : (part e l.toArray off).run P W = .ok v W := by
  simp [part, hag, hv]
end Go.V
namespace Go.Proofs.YtfjgfaccfjdklaaDoor
open Go.RowKit Go.V
theorem sizeCe : (Tryd.prog.info? 26).map (·.size) = some 2 := by kernel_rfl
theorem sizeRe : (Tryd.prog.info? 31).map (·.size) = some 5 := by kernel_rfl
theorem undCse : Tryd.prog.underlying 27 = some (.array 16 26) := by kernel_rfl
theorem undRse : Tryd.prog.underlying 32 = some (.array 6 31) := by kernel_rfl
theorem aggCe : ∀ W : World, (isAgg 26).run Tryd.prog W = .ok true W := fun W => by kernel_rfl
theorem aggRe : ∀ W : World, (isAgg 31).run Tryd.prog W = .ok true W := fun W => by kernel_rfl
theorem eqCe (d : Nat) (x : Cl) : ∀ W : World, (Op.equalIn (d + 2) 26 (.agg x.l.toArray) (.agg x.l.toArray)).run Tryd.prog W = .ok true W := fun W => by
  show (Op.equalIn (d + 2) 26 (.agg #[.bool x.t, .int .i64 x.n]) (.agg #[.bool x.t, .int .i64 x.n])).run Tryd.prog W = .ok true W
  go_simp
theorem eqRe (d : Nat) (r : Rp) : ∀ W : World, (Op.equalIn (d + 3) 31 (.agg r.l.toArray) (.agg r.l.toArray)).run Tryd.prog W = .ok true W := fun W => by
  show (Op.equalIn (d + 3) 31 (.agg #[.int .i64 r.c, .int .i64 r.s, .int .i64 r.k, .bool r.o, .int .i64 r.n]) (.agg #[.int .i64 r.c, .int .i64 r.s, .int .i64 r.k, .bool r.o, .int .i64 r.n])).run Tryd.prog W = .ok true W
  go_simp
theorem eqVe (d : Nat) (v : Vw) : ∀ W : World, (Op.equalIn (d + 2) 24 (.agg v.l.toArray) (.agg v.l.toArray)).run Tryd.prog W = .ok true W := fun W => by
  show (Op.equalIn (d + 2) 24 (.agg #[.int .i64 v.n, .int .u16 (v.m : Int)]) (.agg #[.int .i64 v.n, .int .u16 (v.m : Int)])).run Tryd.prog W = .ok true W
  go_simp
theorem cut_ce : ∀ (c : List Cl) (i : Nat) (x : Cl), c[i]? = some x → ((cvs c).drop (i * 2)).take 2 = x.l
  | [], i, x, h => by simp at h
  | y :: c, 0, x, h => by simp at h; subst h; rfl
  | y :: c, i + 1, x, h => by
    have h : c[i]? = some x := by simpa using h
    have := cut_ce c i x h
    rw [show (i + 1) * 2 = i * 2 + 2 by omega]
    exact this
theorem cut_re : ∀ (c : List Rp) (i : Nat) (x : Rp), c[i]? = some x → ((ras c).drop (i * 5)).take 5 = x.l
  | [], i, x, h => by simp at h
  | y :: c, 0, x, h => by simp at h; subst h; rfl
  | y :: c, i + 1, x, h => by
    have h : c[i]? = some x := by simpa using h
    have := cut_re c i x h
    rw [show (i + 1) * 5 = i * 5 + 5 by omega]
    exact this
theorem eqCse (d : Nat) (c : List Cl) (hc : c.length = 16) : ∀ W : World, (Op.equalIn (d + 3) 27 (.agg (cvs c).toArray) (.agg (cvs c).toArray)).run Tryd.prog W = .ok true W :=
  eqArr_same (d + 2) _ undCse sizeCe (fun i hi => by
    obtain ⟨x, hx⟩ : ∃ x, c[i]? = some x := ⟨_, List.getElem?_eq_getElem (by omega)⟩
    refine ⟨_, part_agg aggCe sizeCe _ _, ?_⟩
    rw [cut_ce c i x hx]
    exact eqCe d x)
theorem eqRse (d : Nat) (a : List Rp) (ha : a.length = 6) : ∀ W : World, (Op.equalIn (d + 4) 32 (.agg (ras a).toArray) (.agg (ras a).toArray)).run Tryd.prog W = .ok true W :=
  eqArr_same (d + 3) _ undRse sizeRe (fun i hi => by
    obtain ⟨x, hx⟩ : ∃ x, a[i]? = some x := ⟨_, List.getElem?_eq_getElem (by omega)⟩
    refine ⟨_, part_agg aggRe sizeRe _ _, ?_⟩
    rw [cut_re a i x hx]
    exact eqRe d x)
theorem aggVe : ∀ W : World, (isAgg 24).run Tryd.prog W = .ok true W := fun W => by kernel_rfl
theorem aggCse : ∀ W : World, (isAgg 27).run Tryd.prog W = .ok true W := fun W => by kernel_rfl
theorem aggRse : ∀ W : World, (isAgg 32).run Tryd.prog W = .ok true W := fun W => by kernel_rfl
theorem aggIe : ∀ W : World, (isAgg 3).run Tryd.prog W = .ok false W := fun W => by kernel_rfl
theorem sizeVe : (Tryd.prog.info? 24).map (·.size) = some 2 := by kernel_rfl
theorem sizeCse : (Tryd.prog.info? 27).map (·.size) = some 32 := by kernel_rfl
theorem sizeRse : (Tryd.prog.info? 32).map (·.size) = some 30 := by kernel_rfl
theorem fldWo : (Tryd.prog.fieldsOf 34).toList.map (fun f => (f.type, f.offset)) = [(3, 0), (3, 1), (24, 2), (24, 4), (27, 6), (32, 38)] := by kernel_rfl
theorem eqIe (d : Nat) (x : Int) : ∀ W : World, (Op.equalIn (d + 1) 3 (.int .i64 x) (.int .i64 x)).run Tryd.prog W = .ok true W := fun W => by
  rw [run_equalIn_int W d 3 .i64 .i64 x x Tryd.underlying3, beq_self_eq_true]
/-- a world is the same as itself -/
theorem eqWo (W : Wo) (hW : WoIn W) : ∀ Y : World, (Op.equalIn 10000 34 (.agg W.l.toArray) (.agg W.l.toArray)).run Tryd.prog Y = .ok true Y := fun Y => by
  rw [show (10000 : Nat) = 9999 + 1 from rfl, run_equalIn_struct Y 9999 34 _ _ (by kernel_rfl) (by kernel_rfl)]
  obtain ⟨t1, t2⟩ := wo_take W hW
  refine eqFields_same 9999 _ _ Y (fun f hf => ?_)
  have h := List.mem_map_of_mem (f := fun f : Field => (f.type, f.offset)) hf
  rw [fldWo] at h
  obtain ⟨nm, ty, off, e1, e2, e3, e4⟩ := f
  simp only [List.mem_cons, List.not_mem_nil, or_false, Prod.mk.injEq] at h
  rcases h with ⟨rfl, rfl⟩ | ⟨rfl, rfl⟩ | ⟨rfl, rfl⟩ | ⟨rfl, rfl⟩ | ⟨rfl, rfl⟩ | ⟨rfl, rfl⟩
  · exact ⟨_, part_one aggIe _ _ _ rfl, eqIe 9998 _⟩
  · exact ⟨_, part_one aggIe _ _ _ rfl, eqIe 9998 _⟩
  · exact ⟨_, part_agg aggVe sizeVe _ _, eqVe 9997 W.v⟩
  · exact ⟨_, part_agg aggVe sizeVe _ _, eqVe 9997 W.u⟩
  · refine ⟨_, part_agg aggCse sizeCse _ _, ?_⟩
    rw [t1]
    exact eqCse 9996 _ hW.c.len
  · refine ⟨_, part_agg aggRse sizeRse _ _, ?_⟩
    rw [t2, List.take_of_length_le (by rw [len_ras, hW.a.1]; omega)]
    exact eqRse 9995 _ hW.a.1
end Go.Proofs.YtfjgfaccfjdklaaDoor
