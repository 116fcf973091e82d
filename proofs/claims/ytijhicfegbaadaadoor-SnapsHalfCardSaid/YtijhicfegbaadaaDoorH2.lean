/- H2: layer 11: a record's bytes; a reader of records. -/
import Derived.Test.YtijhicfegbaadaaDoorH1
import Derived.Test.YtijhicfegbaadaaDoorSA
import Derived.Test.YtijhicfegbaadaaDoorN8
import Derived.Test.YtijhicfegbaadaaDoorE9
namespace Go.V
open Go.RowKit
end Go.V
namespace Go.Proofs.YtijhicfegbaadaaDoor
open Go.RowKit Go.V
theorem len_rec (n : Nat) (t : List UInt8) : (recF n t).length = psz n + psz t.length + t.length + 8 := by
  unfold recF
  simp only [List.length_append, List.length_take, length_packed, len_sha]
  omega
/-- a reader of records of bs, that stands at k: its two boxes rx and bx, the bytes' reader p -/
def RG (w : World) (rx bx p : Nat) (G F : Nat → Prop) (bs : List UInt8) (k : Nat) : Prop :=
  ∃ v, Blk w rx 62 [.pointer (some ⟨p, 0, none⟩)] ∧ Blk w bx 22 [v] ∧ Rd w F v (bys bs) ∧ RdR w p G bs k ∧ rx ≠ p ∧ bx ≠ p ∧ ¬ F p ∧ ∀ b, G b → b < p
theorem RG.keep {w w' : World} {rx bx p : Nat} {G F : Nat → Prop} {bs : List UInt8} {k : Nat} (h : RG w rx bx p G F bs k) (hk : ∀ b, b < w.heap.size → b = rx ∨ b = bx ∨ b = p ∨ G b ∨ F b → w'.heap[b]? = w.heap[b]?) : RG w' rx bx p G F bs k := by
  obtain ⟨v, h1, h2, h3, h4, h5, h6, h7, h8⟩ := h
  have hp : p < w.heap.size := by obtain ⟨_, h, _⟩ := h4; exact lt_of_block h
  exact ⟨v, h1.keep (hk _ h1.lt (.inl rfl)), h2.keep (hk _ h2.lt (.inr (.inl rfl))), h3.keep (fun b hb hf => ⟨hf, hk b hb (.inr (.inr (.inr (.inr hf))))⟩), h4.keep (hk _ hp (.inr (.inr (.inl rfl)))) (fun b hb hf => hk b hb (.inr (.inr (.inr (.inl hf))))), h5, h6, h7, h8⟩
def zRec : List Value := [.int .u64 0, .slice none 0 0, .int .i64 0]
theorem fixRd_8 (l : List UInt8) (h : 8 ≤ l.length) : ∃ x, fixRd 8 l = .ok x := by
  unfold fixRd
  rw [if_pos (by decide), if_neg (by show ¬ l.length < 8; omega)]
  exact ⟨_, rfl⟩
theorem one_rec {n k : Int} {A : Option Addr} {m c : Nat} : ∀ v ∈ [Value.int .u64 n, .slice A m c, .int .i64 k], v.oneCell' = true := by
  intro v hv
  simp at hv
  rcases hv with rfl | rfl | rfl <;> rfl
end Go.Proofs.YtijhicfegbaadaaDoor
