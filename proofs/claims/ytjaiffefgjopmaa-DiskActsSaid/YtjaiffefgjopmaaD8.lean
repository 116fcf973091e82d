/- D8: layer 10: the document's Do, in one. -/
import Derived.Test.YtjaiffefgjopmaaD7
namespace Go.V
open Go.RowKit
/-- what an act does to the document's disk; its error -/
def doF (d : Dk) (a : Ac) : Dk × Int :=
  if a.k = 4 then (if (burnF d).2 = true then ({ (burnF d).1 with syn := nowF d, pend := [] }, 0) else ((burnF d).1, 0))
  else if a.k = 5 then (crashF d a.keep a.torn a.cut, 0)
  else if a.k = 6 then (d, 0)
  else if a.k = 7 then (if d.down = true then (d, 0) else ({ d with fuse := a.m }, 0))
  else if d.down = true then (d, 14)
  else if namF a.n = false ∨ (a.k = 2 ∧ namF a.t = false) then (d, 15)
  else if a.k ≤ 1 then sizeR d a else findR d a
structure AcSm (a : Ac) : Prop where
  b : a.b.length ≤ 1000000000
  keep : a.keep < 18446744073709551616
  cut : -9223372036854775808 ≤ a.cut ∧ a.cut ≤ 9223372036854775807
  m : -9223372036854775808 ≤ a.m ∧ a.m ≤ 9223372036854775807
  nn : a.n.size ≤ maxLen
  tt : a.t.size ≤ maxLen
end Go.V
namespace Go.Proofs.Ytjaiffefgjopmaa
open Go.RowKit Go.V
theorem do_any (p : Nat) (r : Option Nat) (N : Nat → Prop) (d : Dk) (a : Ac) (va : Value) (w : World) (h : RX w p r N d) (hs : DkSm d) (hN : ∀ b, N b → b < w.heap.size) (hva : Rd w (dkF p r N) va (bys a.b)) (ha : AcSm a) :
    Calls Try.prog 15 #[.pointer (some ⟨p, 0, none⟩), .agg (a.l va).toArray] w (DoP w p r N (doF d a)) := by
  unfold doF
  by_cases h4 : a.k = 4
  · rw [if_pos h4]
    by_cases hb : (burnF d).2 = true
    · rw [if_pos hb]; exact do_sync p r N d a va w h hs hN hva h4 hb
    · rw [if_neg hb]; exact do_sync0 p r N d a va w h hs hN hva h4 (by simpa using hb)
  rw [if_neg h4]
  by_cases h5 : a.k = 5
  · rw [if_pos h5]; exact do_crash p r N d a va w h hs hN hva h5 ha.keep ha.cut
  rw [if_neg h5]
  by_cases h6 : a.k = 6
  · rw [if_pos h6]; exact do_copy p r N d a va w h hs hN hva h6
  rw [if_neg h6]
  by_cases h7 : a.k = 7
  · rw [if_pos h7]
    by_cases hd : d.down = true
    · rw [if_pos hd]; exact do_fuse0 p r N d a va w h hs hN hva h7 hd
    · rw [if_neg hd]; exact do_fuse p r N d a va w h hs hN hva h7 (by simpa using hd)
  rw [if_neg h7]
  have hk : a.k ≠ 4 ∧ a.k ≠ 5 ∧ a.k ≠ 6 ∧ a.k ≠ 7 := ⟨h4, h5, h6, h7⟩
  by_cases hd : d.down = true
  · rw [if_pos hd]; exact do_down p r N d a va w h hs hN hva hk hd
  rw [if_neg hd]
  have hd' : d.down = false := by simpa using hd
  by_cases hn : namF a.n = false
  · rw [if_pos (.inl hn)]; exact do_name p r N d a va w h hs hN hva hk hd' hn
  have hn' : namF a.n = true := by simpa using hn
  by_cases h2 : a.k = 2
  · by_cases ht : namF a.t = false
    · rw [if_pos (.inr ⟨h2, ht⟩)]; exact do_name2 p r N d a va w h hs hN hva h2 hd' hn' ht
    · rw [if_neg (fun h => h.elim hn (fun h => ht h.2)), if_neg (by omega)]; exact do_act2 p r N d a va w h hs hN hva h2 hd' hn' (by simpa using ht)
  rw [if_neg (fun h => h.elim hn (fun h => h2 h.1))]
  by_cases h1 : a.k ≤ 1
  · rw [if_pos h1]; exact do_act01 p r N d a va w h hs hN hva h1 hd' hn' ha.b
  · rw [if_neg h1]; exact do_act3 p r N d a va w h hs hN hva ⟨by omega, hk⟩ hd' hn'
end Go.Proofs.Ytjaiffefgjopmaa
