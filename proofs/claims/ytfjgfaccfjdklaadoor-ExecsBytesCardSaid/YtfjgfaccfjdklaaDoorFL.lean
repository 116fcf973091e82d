/- FL: opening arguments that are worlds, or lists of batches (layer 15). -/
import Derived.Test.YtfjgfaccfjdklaaDoorFR
import Derived.Test.YtfjgfaccfjdklaaDoorFK
import Derived.Test.YtfjgfaccfjdklaaDoorF8
import Derived.Test.YtfjgfaccfjdklaaDoorA5
namespace Go.Proofs.YtfjgfaccfjdklaaDoor
open Go.ChangeShapes Go.WideShapes Go.ChangeAt Go.RowKit Go.Joins Go.Deep Go.V
def rqT : WD Rq 7 := ⟨rqD, fun _ => rfl, by omega⟩
theorem rq_el {w : World} {F : Nat → Prop} {r : Rq} {u : Value} (hu : Rd w F u (bys r.g)) : WdEl w F rqT r (r.l u) :=
  ⟨rfl, fun j v d hv hd => by
    match j with
    | 0 => simp [Rq.l] at hv; simp [rqT, rqD] at hd; subst hv hd; unfold Rd; rfl
    | 1 => simp [Rq.l] at hv; simp [rqT, rqD] at hd; subst hv hd; unfold Rd; rfl
    | 2 => simp [Rq.l] at hv; simp [rqT, rqD] at hd; subst hv hd; unfold Rd; rfl
    | 3 => simp [Rq.l] at hv; simp [rqT, rqD] at hd; subst hv hd; unfold Rd; rfl
    | 4 => simp [Rq.l] at hv; simp [rqT, rqD] at hd; subst hv hd; unfold Rd; rfl
    | 5 => simp [Rq.l] at hv; simp [rqT, rqD] at hd; subst hv hd; unfold Rd; rfl
    | 6 => simp [Rq.l] at hv; simp [rqT, rqD] at hd; subst hv hd; exact hu
    | j + 7 => simp [Rq.l] at hv⟩
/-- a cell that is a list of requests -/
theorem open_reqsc {H : Type} {enc : TypeId × Value → H} {P : Program} {W : World} {t e : TypeId} (ht : P.underlying t = some (.slice e)) (hT : RqTy P e) {fuel : Nat} {c : Value} {y : DataW H × List MemPlace} (hf : DataW.trod enc P W 0 (fun _ => true) true fuel t [c] = some y) :
    ∃ l : List Rq, Rd W (fun _ => True) c (rqs l) ∧ ∀ r ∈ l, in64 r.a ∧ in64 r.b :=
  open_wdsc rqT ht hT.cells (fun r => in64 r.a ∧ in64 r.b) ⟨0, 0, 0, 0, 0, 0, []⟩ (fun _ _ _ h => by
    obtain ⟨r, u, rfl, h1, h2, h3⟩ := open_rqc hT h
    exact ⟨r, rq_el h1, h2, h3⟩) hf
def btT : WD (List Rq) 1 := ⟨fun x => [rqs x], fun _ => rfl, by omega⟩
theorem bts_wds (l : List (List Rq)) : wds btT l = bts l := by
  unfold wds bts
  congr 1
  induction l with
  | nil => rfl
  | cons x l ih => rw [List.flatMap_cons, List.map_cons, ih]; rfl
/-- an argument that is a list of batches -/
theorem open_bts {H : Type} {enc : TypeId × Value → H} {P : Program} {W : World} {base : Nat} {t e q : TypeId} (ht : P.underlying t = some (.slice e)) (he : P.underlying e = some (.slice q)) (hce : P.cellsOf e = 1) (hT : RqTy P q) {v : Value} {d : DataW H} {p : List MemPlace} (hv : Value.okWide P W .any base t v) (h : DataW.Trod enc P W 0 (fun _ => true) true t v d p) :
    ∃ l : List (List Rq), Rd W (fun _ => True) v (bts l) ∧ ∀ x ∈ l, ∀ r ∈ x, in64 r.a ∧ in64 r.b := by
  obtain ⟨l, h1, h2⟩ := open_wds btT ht hce (fun x => ∀ r ∈ x, in64 r.a ∧ in64 r.b) [] (fun fuel cs x h => by
    have hl : cs.length = 1 := by
      rcases open_slice he h with ⟨hcs, _⟩ | ⟨_, _, _, _, _, _, _, hcs, _⟩ <;> rw [hcs] <;> rfl
    match cs, hl with
    | [c], _ =>
      obtain ⟨l, h1, h2⟩ := open_reqsc he hT h
      refine ⟨l, ⟨rfl, fun j v d hv hd => ?_⟩, h2⟩
      match j with
      | 0 => simp at hv; simp [btT] at hd; subst hv hd; exact h1
      | j + 1 => simp at hv) hv h
  exact ⟨l, by rw [← bts_wds]; exact h1, h2⟩
/-- what is said of the types of a view -/
structure VwTy (P : Program) (t : TypeId) : Prop where
  it : ∃ f0 f1 : Field, P.underlying t = some (.struct #[f0, f1]) ∧ [f0.offset, f1.offset] = [0, 1] ∧ [P.cellsOf t, P.cellsOf f0.type, P.cellsOf f1.type] = [2, 1, 1] ∧ P.underlying f0.type = some (.int .i64) ∧ P.underlying f1.type = some (.int .u16)
theorem open_vwc {H : Type} {enc : TypeId × Value → H} {P : Program} {W : World} {t : TypeId} (hT : VwTy P t) {fuel : Nat} {cs : List Value} {x : DataW H × List MemPlace} (h : DataW.trod enc P W 0 (fun _ => true) true fuel t cs = some x) : ∃ v : Vw, cs = v.l ∧ i64s v.n ∧ v.m < 65536 := by
  obtain ⟨f0, f1, ht, hof, hcl, h0, h1⟩ := hT.it
  obtain ⟨y0, y1, n, _, hl, r0, r1⟩ := trod_struct2 ht h
  simp only [List.cons.injEq, and_true] at hof hcl
  obtain ⟨o0, o1⟩ := hof
  obtain ⟨k, k0, k1⟩ := hcl
  rw [k] at hl
  rw [o0, k0] at r0
  rw [o1, k1] at r1
  match cs, hl with
  | [c0, c1], _ =>
    obtain ⟨N, e0, _, w0⟩ := DataW.trod_int h0 r0
    obtain ⟨M, e1, _, w1⟩ := DataW.trod_int h1 r1
    obtain ⟨M', rfl, hM⟩ := u16_of_wf w1
    simp only [List.drop_zero, List.drop_succ_cons, List.take_succ_cons, List.take_zero, List.cons.injEq, and_true] at e0 e1
    subst e0 e1
    exact ⟨⟨N, M'⟩, rfl, i64_of_wf w0, hM⟩
/-- what is said of the types of a world -/
structure WoTy (P : Program) (t : TypeId) : Prop where
  it : ∃ f0 f1 f2 f3 f4 f5 : Field, ∃ ec er : TypeId, P.underlying t = some (.struct #[f0, f1, f2, f3, f4, f5]) ∧ [f0.offset, f1.offset, f2.offset, f3.offset, f4.offset, f5.offset] = [0, 1, 2, 4, 6, 38] ∧
    [P.cellsOf t, P.cellsOf f0.type, P.cellsOf f1.type, P.cellsOf f2.type, P.cellsOf f3.type, P.cellsOf f4.type, P.cellsOf f5.type] = [68, 1, 1, 2, 2, 32, 30] ∧
    P.underlying f0.type = some (.int .i64) ∧ P.underlying f1.type = some (.int .i64) ∧ VwTy P f2.type ∧ VwTy P f3.type ∧ P.underlying f4.type = some (.array 16 ec) ∧ P.underlying f5.type = some (.array 6 er) ∧ ClTy P ec ∧ RpTy P er
theorem open_woc {H : Type} {enc : TypeId × Value → H} {P : Program} {W : World} {t : TypeId} (hT : WoTy P t) {fuel : Nat} {cs : List Value} {x : DataW H × List MemPlace} (h : DataW.trod enc P W 0 (fun _ => true) true fuel t cs = some x) : ∃ X : Wo, cs = X.l ∧ WoIn X := by
  obtain ⟨f0, f1, f2, f3, f4, f5, ec, er, ht, hof, hcl, h0, h1, h2, h3, h4, h5, hec, her⟩ := hT.it
  obtain ⟨xs, n, _, _, hl, hlen, hf⟩ := DataW.trod_struct ht h
  simp only [List.cons.injEq, and_true] at hof hcl
  obtain ⟨o0, o1, o2, o3, o4, o5⟩ := hof
  obtain ⟨k, k0, k1, k2, k3, k4, k5⟩ := hcl
  have hxl : xs.length = 6 := hlen
  match xs, hxl with
  | [y0, y1, y2, y3, y4, y5], _ =>
    have r0 := hf 0 f0 rfl
    have r1 := hf 1 f1 rfl
    have r2 := hf 2 f2 rfl
    have r3 := hf 3 f3 rfl
    have r4 := hf 4 f4 rfl
    have r5 := hf 5 f5 rfl
    rw [k] at hl
    rw [o0, k0] at r0
    rw [o1, k1] at r1
    rw [o2, k2] at r2
    rw [o3, k3] at r3
    rw [o4, k4] at r4
    rw [o5, k5] at r5
    have hc2 : P.cellsOf ec = 2 := by
      obtain ⟨_, _, _, _, hcl, _⟩ := hec.it
      simp only [List.cons.injEq, and_true] at hcl
      exact hcl.1
    have hc5 : P.cellsOf er = 5 := by
      obtain ⟨_, _, _, _, _, _, _, _, hcl, _⟩ := her.it
      simp only [List.cons.injEq, and_true] at hcl
      exact hcl.1
    obtain ⟨S, e0, _, w0⟩ := DataW.trod_int h0 r0
    obtain ⟨F, e1, _, w1⟩ := DataW.trod_int h1 r1
    obtain ⟨V, e2, hV⟩ := open_vwc h2 r2
    obtain ⟨U, e3, hU⟩ := open_vwc h3 r3
    obtain ⟨C, e4, hCl, hCi⟩ := open_arrc h4 hc2 k4 Cl.l (fun c => i64s c.n) (fun _ _ _ h => open_clc hec h) r4
    obtain ⟨A, e5, hAl, hAi⟩ := open_arrc h5 hc5 k5 Rp.l RpIn (fun _ _ _ h => open_rpc her h) r5
    refine ⟨⟨S, F, V, U, C, A⟩, ?_, ⟨i64_of_wf w0, i64_of_wf w1, hV, hU, ⟨hCl, hCi⟩, hAl, hAi⟩⟩
    have hsp : cs = cs.take 1 ++ ((cs.drop 1).take 1 ++ ((cs.drop 2).take 2 ++ ((cs.drop 4).take 2 ++ ((cs.drop 6).take 32 ++ (cs.drop 38).take 30)))) := by
      have s1 := (List.take_append_drop 1 cs).symm
      have s2 := (List.take_append_drop 1 (cs.drop 1)).symm
      have s3 := (List.take_append_drop 2 (cs.drop 2)).symm
      have s4 := (List.take_append_drop 2 (cs.drop 4)).symm
      have s5 := (List.take_append_drop 32 (cs.drop 6)).symm
      rw [List.drop_drop] at s2 s3 s4 s5
      rw [List.take_of_length_le (show (cs.drop 38).length ≤ 30 by rw [List.length_drop]; omega)]
      rw [← s5, ← s4, ← s3, ← s2]
      exact s1
    rw [List.drop_zero] at e0
    rw [hsp, e0, e1, e2, e3, e4, e5]
    rfl
/-- an argument that is a world -/
theorem open_world {H : Type} {enc : TypeId × Value → H} {P : Program} {W : World} {base : Nat} {t : TypeId} (hT : WoTy P t) {v : Value} {d : DataW H} {p : List MemPlace} (hv : Value.okWide P W .any base t v) (h : DataW.Trod enc P W 0 (fun _ => true) true t v d p) : ∃ X : Wo, v = .agg X.l.toArray ∧ WoIn X := by
  obtain ⟨f0, f1, f2, f3, f4, f5, ec, er, ht, _⟩ := hT.it
  obtain ⟨cs, rfl, _⟩ := okWide_struct ht hv
  obtain ⟨fuel, hf⟩ := h
  obtain ⟨X, hc, hX⟩ := open_woc hT hf
  obtain ⟨cs⟩ := cs
  have hc : cs = X.l := hc
  subst hc
  exact ⟨X, rfl, hX⟩
theorem vwTy : VwTy Tryd.prog 24 := ⟨⟨_, _, Tryd.underlying24, by kernel_rfl, by kernel_rfl, Tryd.underlying3, Tryd.underlying22⟩⟩
theorem woTy : WoTy Tryd.prog 34 := ⟨⟨_, _, _, _, _, _, _, _, Tryd.underlying34, by kernel_rfl, by kernel_rfl, Tryd.underlying3, Tryd.underlying3, vwTy, vwTy, Tryd.underlying27, Tryd.underlying32, clTy, rpTy⟩⟩
end Go.Proofs.YtfjgfaccfjdklaaDoor
