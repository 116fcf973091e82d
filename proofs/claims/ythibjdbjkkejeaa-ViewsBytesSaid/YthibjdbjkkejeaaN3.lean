/- N3: contracts of PutPacked, PutFolded, PutText, New. -/
import Derived.Test.YthibjdbjkkejeaaN2
namespace Go.Proofs.Ythibjdbjkkejeaa
open Go.RowKit Go.V

/-- a new slice of bytes, nothing else turned -/
def NewB (w w' : World) (v : Value) (bs : List UInt8) : Prop := w'.ownsRow w.heap.size 5 1 v bs.length (bvs bs) ∧ Below w.heap.size w w'
theorem NewB.rd {w w' : World} {v : Value} {bs : List UInt8} (h : NewB w w' v bs) : Rd w' (fun b => w.heap.size ≤ b) v (bys bs) := Rd.of_own h.1
theorem len_packed (bs : List UInt8) (x : Nat) : (bs ++ packed x).length = bs.length + psz x := by rw [List.length_append, length_packed]

/-- a reader in block p: its bytes, and how many were read -/
def RdR (w : World) (p : Nat) (F : Nat → Prop) (bs : List UInt8) (at_ : Nat) : Prop :=
  ∃ v, w.heap[p]? = some (.cells #[v, .int .i64 (at_ : Int)] 65 (0, 0)) ∧ Rd w F v (bys bs) ∧ at_ ≤ bs.length ∧ ¬ F p

theorem RdR.keep {w w' : World} {p : Nat} {F : Nat → Prop} {bs : List UInt8} {k : Nat} (h : RdR w p F bs k) (hp : w'.heap[p]? = w.heap[p]?) (hF : ∀ b, b < w.heap.size → F b → w'.heap[b]? = w.heap[b]?) : RdR w' p F bs k := by
  obtain ⟨v, h1, h2, h3⟩ := h
  exact ⟨v, hp.trans h1, h2.keep (fun b hb hf => ⟨hf, hF b hb hf⟩), h3⟩
theorem RdR.drewN {w : World} {p : Nat} {F : Nat → Prop} {bs : List UInt8} {k : Nat} (h : RdR w p F bs k) (n : Nat) : RdR (w.drewN n) p F bs k := h.keep rfl (fun _ _ _ => rfl)

theorem RdR.belowR {w w' : World} {p : Nat} {F : Nat → Prop} {bs : List UInt8} {k : Nat} (h : RdR w p F bs k) (hB : Below w.heap.size w w') : RdR w' p F bs k := by
  obtain ⟨v, h1, _⟩ := id h
  exact h.keep (hB.block p (lt_of_block h1)) (fun b hb _ => hB.block b hb)
set_option maxHeartbeats 400000 in
theorem new_any (v : Value) (bs : List UInt8) (F : Nat → Prop) (w : World) (hb : Rd w F v (bys bs)) (hn : bs.length ≤ 35184372088832) :
    Calls Try.prog 37 #[v] w fun e w' => ∃ p, e = .returned (.pointer (some ⟨p, 0, none⟩)) ∧ w.heap.size ≤ p ∧ RdR w' p (fun b => w.heap.size ≤ b ∧ b < p) bs 0 ∧ Below w.heap.size w w' := by
  go_enter Try.func37, Try.ntmps37
  go_wp2_with (fail)
  refine (ext_i v bs _ F _ hb (by omega) (by omega)).mono ?_
  rintro e w1 ⟨v1, rfl, ho1, hB1⟩
  obtain ⟨A1, c1, rfl⟩ := own_shape ho1
  go_wp2
  go_ret
  have hB2 : Below w.heap.size w1 (w1.alloc (Obj.cells #[.slice A1 bs.length c1, .int .i64 0] 65)) := (Below.refl _ _).alloc hB1.size _
  exact ⟨w1.heap.size, rfl, hB1.size, ⟨_, heap_alloc_new w1 _, (Rd.of_own' ho1 fun b h1 h2 => ⟨h1, h2⟩).below ((Below.refl _ _).alloc (Nat.le_refl _) _), Nat.zero_le _, fun h => by omega⟩, hB1.trans hB2⟩
end Go.Proofs.Ythibjdbjkkejeaa
