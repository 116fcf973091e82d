/- FW: opening arguments that are lists of structs, or arrays of them, whatever the struct. No project text. -/
import Derived.Test.YtddeeigdcolegaaDoorLW
import Derived.Test.YtddeeigdcolegaaDoorF
import Derived.Lib.SmallJoins
import Derived.Deep.Slices
import Derived.ChangeSame
import Derived.OpenShut
namespace Go.V
open Go.ChangeShapes Go.WideShapes Go.ChangeAt Go.RowKit Go.Joins Go.Deep
variable {α : Type} {k : Nat}
/-- a cell that is a list of structs -/
theorem open_wdsc {H : Type} {enc : TypeId × Value → H} {P : Program} {W : World} {t e : TypeId} (T : WD α k) (ht : P.underlying t = some (.slice e)) (hce : P.cellsOf e = k) (Q : α → Prop) (a0 : α)
    (hop : ∀ (fuel : Nat) (cs : List Value) (x : DataW H × List MemPlace), DataW.trod enc P W 0 (fun _ => true) true fuel e cs = some x → ∃ a, WdEl W (fun _ => True) T a cs ∧ Q a)
    {fuel : Nat} {c : Value} {y : DataW H × List MemPlace} (hf : DataW.trod enc P W 0 (fun _ => true) true fuel t [c] = some y) : ∃ l : List α, Rd W (fun _ => True) c (wds T l) ∧ ∀ a ∈ l, Q a := by
  rcases open_slice ht hf with ⟨hcs, _⟩ | ⟨x, len, cap, m, n, D, Pl, hcs, _, hl, hm, hmm, _, hi⟩
  · injection hcs with hcs
    subst hcs
    exact ⟨[], wds_nil, fun r h => by simp at h⟩
  · injection hcs with hcs
    subst hcs
    simp at hmm
    subst hmm
    have hall : ∀ i, ∃ r : α, i < len → ∃ cs, (∀ j, j < k → W.cell? ((x.add (i * k)).add j) = cs[j]?) ∧ WdEl W (fun _ => True) T r cs ∧ Q r := fun i => by
      by_cases hlt : i < len
      · obtain ⟨cs', hc, hd⟩ := hi i (by omega)
        rw [hce] at hc
        obtain ⟨_, _, hat⟩ := World.cells?_some hc
        obtain ⟨r, h1, h2⟩ := hop _ _ _ hd
        exact ⟨r, fun _ => ⟨cs', hat, h1, h2⟩⟩
      · exact ⟨a0, fun h => absurd h hlt⟩
    obtain ⟨f, hf⟩ := Classical.skolem.1 hall
    refine ⟨(List.range len).map f, ?_, fun r hr => ?_⟩
    · unfold wds Rd
      have hll : ((List.range len).map f).length = len := by simp
      refine ⟨some x, m, by rw [hll], by rw [hll]; exact hl, hm, fun h => by rw [List.eq_nil_of_length_eq_zero h]; rfl, fun hne => ?_⟩
      have hpos : 0 < len := by
        rcases Nat.eq_zero_or_pos len with h0 | h0
        · subst h0; exact absurd (by simp) hne
        · exact h0
      have hx0 : x.spot = none := by
        obtain ⟨cs, hc, hel, _⟩ := hf 0 hpos
        have hp := T.pos
        have h0 := hc 0 hp
        rw [List.getElem?_eq_getElem (by rw [hel.len]; exact hp)] at h0
        have := spot_none h0
        simpa [Addr.add] using this
      obtain ⟨g, off, sp⟩ := x
      simp only at hx0
      subst hx0
      refine ⟨g, off, rfl, trivial, wdC_of T _ off (fun i r hr => ?_)⟩
      have hil : i < len := by have := (List.getElem?_eq_some_iff.1 hr).1; simpa using this
      have hfi : r = f i := by
        rw [List.getElem?_map, List.getElem?_range hil] at hr
        simpa using hr.symm
      subst hfi
      obtain ⟨cs, hc, hm, _⟩ := hf i hil
      refine wdC_in _ cs _ (by rw [T.len, hm.len]) (fun j w hw => ?_) hm.at_
      have hj : j < k := by have := (List.getElem?_eq_some_iff.1 hw).1; rw [hm.len] at this; exact this
      have := hc j hj
      rw [add_mk, add_mk] at this
      rw [this]
      exact hw
    · obtain ⟨i, hi', rfl⟩ := List.mem_map.1 hr
      obtain ⟨_, _, _, h2⟩ := hf i (by simpa using hi')
      exact h2
/-- an argument that is a list of structs -/
theorem open_wds {H : Type} {enc : TypeId × Value → H} {P : Program} {W : World} {base : Nat} {t e : TypeId} (T : WD α k) (ht : P.underlying t = some (.slice e)) (hce : P.cellsOf e = k) (Q : α → Prop) (a0 : α)
    (hop : ∀ (fuel : Nat) (cs : List Value) (x : DataW H × List MemPlace), DataW.trod enc P W 0 (fun _ => true) true fuel e cs = some x → ∃ a, WdEl W (fun _ => True) T a cs ∧ Q a)
    {v : Value} {d : DataW H} {p : List MemPlace} (hv : Value.okWide P W .any base t v) (h : DataW.Trod enc P W 0 (fun _ => true) true t v d p) : ∃ l : List α, Rd W (fun _ => True) v (wds T l) ∧ ∀ a ∈ l, Q a := by
  obtain ⟨a, len, cap, rfl⟩ := okWide_slice ht hv
  obtain ⟨fuel, hf⟩ := h
  exact open_wdsc T ht hce Q a0 hop hf
/-- a list of cells cut into pieces -/
theorem cut_pieces {L : α → List Value} {Q : α → Prop} : ∀ (n : Nat) (cs : List Value), cs.length = n * k → (∀ i, i < n → ∃ a, (cs.drop (i * k)).take k = L a ∧ Q a) → ∃ l : List α, cs = l.flatMap L ∧ l.length = n ∧ ∀ a ∈ l, Q a
  | 0, cs, hl, _ => ⟨[], by rw [Nat.zero_mul] at hl; rw [List.eq_nil_of_length_eq_zero hl]; rfl, rfl, fun a h => by simp at h⟩
  | n + 1, cs, hl, h => by
    obtain ⟨a, ha, hq⟩ := h 0 (by omega)
    rw [Nat.zero_mul, List.drop_zero] at ha
    have hl' : (cs.drop k).length = n * k := by rw [List.length_drop, hl, Nat.add_mul]; omega
    obtain ⟨l, h1, h2, h3⟩ := cut_pieces (L := L) (Q := Q) n (cs.drop k) hl' (fun i hi => by
      obtain ⟨b, hb, hqb⟩ := h (i + 1) (by omega)
      refine ⟨b, ?_, hqb⟩
      rw [List.drop_drop, ← hb]
      congr 2
      rw [Nat.add_mul, Nat.one_mul, Nat.add_comm])
    refine ⟨a :: l, ?_, by simp [h2], fun b hb => ?_⟩
    · rw [List.flatMap_cons, ← h1, ← ha, List.take_append_drop]
    · rcases List.mem_cons.1 hb with rfl | hb
      · exact hq
      · exact h3 b hb
/-- cells that are an array of structs -/
theorem open_arrc {H : Type} {enc : TypeId × Value → H} {P : Program} {W : World} {t e : TypeId} {n : Nat} (ht : P.underlying t = some (.array n e)) (hce : P.cellsOf e = k) (hct : P.cellsOf t = n * k) (L : α → List Value) (Q : α → Prop)
    (hop : ∀ (fuel : Nat) (cs : List Value) (x : DataW H × List MemPlace), DataW.trod enc P W 0 (fun _ => true) true fuel e cs = some x → ∃ a, cs = L a ∧ Q a)
    {fuel : Nat} {cs : List Value} {y : DataW H × List MemPlace} (hf : DataW.trod enc P W 0 (fun _ => true) true fuel t cs = some y) : ∃ l : List α, cs = l.flatMap L ∧ l.length = n ∧ ∀ a ∈ l, Q a := by
  obtain ⟨xs, m, rfl, hx, hl, hn, hel⟩ := DataW.trod_array ht hf
  rw [hct] at hl
  refine cut_pieces n cs hl (fun i hi => ?_)
  have h1 := hel i hi
  rw [hce, List.getElem?_eq_getElem (by omega)] at h1
  exact hop _ _ _ h1
end Go.V
