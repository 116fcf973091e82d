/- MQ: maps from names to bytes: the laws inside a region that draws its order. No project text. -/
import Derived.Test.YtijhicfegbaadaaDoorMP
namespace Go.V
open Go.RowKit Go.Maps Go.ChangeShapes Go.WideShapes Go.ChangeMaps
variable {P : Program} {k : TypeId} {w : World} {F : Nat → Prop} {b : Nat} {L : List Fl} {ops : Array Oper} {o : Oper} {a : Act} {Q : Exit → Act → World → Prop} {K : Act → World → Prop} {E : Prop}
/-- what 'm[s]' comes to -/
theorem FMs.run_look (h : FMs P k w F b L) (t e : TypeId) (c : Bool) (hk : P.underlying k = some .string) (ht : P.underlying t = some (.map k e)) (hz : (zeroValue e).run P w = .ok (.slice none 0 0) w) {s : ByteArray} (hs : s.size ≤ maxLen) :
    ∃ A cc, (Instr.lookup t (.map (some b)) (.string s) c).run P w = .ok (if c then .tuple #[.slice A ((findF L s).getD []).length cc, .bool (findF L s).isSome] else .slice A ((findF L s).getD []).length cc) w ∧ Rd w F (.slice A ((findF L s).getD []).length cc) (bys ((findF L s).getD [])) := by
  have Kd := string_keyed hk
  obtain ⟨l, es, hown, hf⟩ := h.find Kd s
  have hkey := WideMaps.keyOf_string_mk hk hs
  cases c with
  | false =>
    obtain ⟨v, ps, hrun, hv⟩ := hown.lookup Kd ht hz (zd := .held (.slice none 0 0)) (zp := []) rfl hkey
    obtain ⟨-, hd⟩ := heldR_inv hv
    rcases hf with ⟨h1, h2, h3⟩ | ⟨c, u, h1, h2, h3, h4⟩
    · have h3 := h3 (.held (.slice none 0 0))
      unfold mkl at h3
      rw [h3] at hd
      injection hd with hd
      subst hd
      rw [h1]
      exact ⟨none, 0, hrun, Rd.nil _ _⟩
    · have h4 := h4 (.held (.slice none 0 0))
      unfold mkl at h4
      rw [h4] at hd
      injection hd with hd
      subst hd
      rw [h1]
      obtain ⟨A, cc, rfl⟩ := h2.shape
      exact ⟨A, cc, hrun, h2⟩
  | true =>
    obtain ⟨v, ps, hrun, hv⟩ := hown.look_ok Kd ht hz (zd := .held (.slice none 0 0)) (zp := []) rfl hkey
    obtain ⟨-, hd⟩ := heldR_inv hv
    rcases hf with ⟨h1, h2, h3⟩ | ⟨c, u, h1, h2, h3, h4⟩
    · have h3 := h3 (.held (.slice none 0 0))
      unfold mkl at h3 h2
      rw [h3] at hd
      injection hd with hd
      subst hd
      rw [h2] at hrun
      rw [h1]
      exact ⟨none, 0, hrun, Rd.nil _ _⟩
    · have h4 := h4 (.held (.slice none 0 0))
      unfold mkl at h4 h3
      rw [h4] at hd
      injection hd with hd
      subst hd
      rw [h3] at hrun
      rw [h1]
      obtain ⟨A, cc, rfl⟩ := h2.shape
      exact ⟨A, cc, hrun, h2⟩
/-- what 'm[s] = v' comes to -/
theorem FMs.run_put (h : FMs P k w F b L) (t e : TypeId) (hk : P.underlying k = some .string) (ht : P.underlying t = some (.map k e)) (hL : L.length < maxLen) {s : ByteArray} (hs : s.size ≤ maxLen) {A : Option Addr} {n c : Nat} {bs : List UInt8} (hv : Rd w F (.slice A n c) (bys bs)) (hF : ¬ F b) :
    ∃ w', (Instr.mapUpdate t (.map (some b)) (.string s) (.slice A n c)).run P w = .ok () w' ∧ FMs P k w' F b (⟨s, bs⟩ :: woF L s) ∧ w.grownBy w' (some b) ∧ w.heap.size = w'.heap.size := by
  have Kd := string_keyed hk
  obtain ⟨l, es, h1, hown, hp, h5⟩ := h
  have hl : l.length < maxLen := by rw [← h1] at hL; simpa using hL
  obtain ⟨w', hrun, ho', ht'⟩ := hown.store (val := .slice A n c) (d := .held (.slice A n c)) (ps := []) Kd ht hl (WideMaps.keyOf_string_mk hk hs) rfl
  have hg := ht'.grown
  have hkp : ∀ x, x < w.heap.size → F x → F x ∧ w'.heap[x]? = w.heap[x]? := fun x hx hf => ⟨hf, hg.block x hx (fun e => by injection e with e; subst e; exact hF hf)⟩
  refine ⟨w', hrun, FMs.put_of h1 hp (fun p hp => ⟨(h5 p hp).1.keep hkp, (h5 p hp).2⟩) hs (hv.keep hkp) ho', hg, ?_⟩
  obtain ⟨es1, clock, es2, clock2, _, rfl⟩ := ht'
  simp [ChangeMaps.setBlock]
/-- 'm[s]', in a region that draws its order -/
theorem step_look1F (t e : TypeId) (m x : Operand) (hgd : o.guard = none) (ho : o.op = .lookup t m x false) (hk : P.underlying k = some .string) (ht : P.underlying t = some (.map k e)) (hz : (zeroValue e).run P w = .ok (.slice none 0 0) w)
    (hm : a.eval m = .map (some b)) (h : FMs P k w F b L) {s : ByteArray} (hx : a.eval x = .string s) (hs : s.size ≤ maxLen)
    (hK : ∀ A c, Rd w F (.slice A ((findF L s).getD []).length c) (bys ((findF L s).getD [])) → K (a.put o.dst (.slice A ((findF L s).getD []).length c)) w) : if Region.wanted o (yielded ops a.tmps) = true then Oper.wp P o a w K Q else E := by
  have hw : Region.wanted o (yielded ops a.tmps) = true := by simp [Region.wanted, hgd]
  rw [if_pos hw]
  obtain ⟨A, cc, hrun, hr⟩ := h.run_look t e false hk ht hz hs
  unfold Oper.wp execOp
  simp only [ho, hm, hx, Sem.run_bind, Sem.run_pure, hrun, Result.andThen_ok]
  exact hK A cc hr
/-- 'm[s] = v', in a region that draws its order -/
theorem step_putF (t e : TypeId) (m x y : Operand) (hgd : o.guard = none) (ho : o.op = .mapUpdate t m x y) (hk : P.underlying k = some .string) (ht : P.underlying t = some (.map k e))
    (hm : a.eval m = .map (some b)) (h : FMs P k w F b L) (hL : L.length < maxLen) {s : ByteArray} (hx : a.eval x = .string s) (hs : s.size ≤ maxLen) {A : Option Addr} {n c : Nat} (hy : a.eval y = .slice A n c) {bs : List UInt8} (hv : Rd w F (.slice A n c) (bys bs)) (hF : ¬ F b)
    (hK : ∀ w', FMs P k w' F b (⟨s, bs⟩ :: woF L s) → w.grownBy w' (some b) → w.heap.size = w'.heap.size → K (a.put o.dst undef) w') : if Region.wanted o (yielded ops a.tmps) = true then Oper.wp P o a w K Q else E := by
  have hw : Region.wanted o (yielded ops a.tmps) = true := by simp [Region.wanted, hgd]
  rw [if_pos hw]
  obtain ⟨w', hrun, h1, h2, h3⟩ := h.run_put t e hk ht hL hs hv hF
  unfold Oper.wp execOp
  simp only [ho, hm, hx, hy, Sem.run_bind, Sem.run_pure, hrun, Result.andThen_ok]
  exact hK w' h1 h2 h3
end Go.V
