/- DQ: layer 10: how large a disk gets; its fuse. -/
import Derived.Test.YtjaiffefgjopmaaDL
namespace Go.V
open Go.RowKit
/-- a list of texts as strings -/
def strs (l : List ByteArray) : Dat := .sl l.length (l.map fun s => .atom (.string s))
def mN (d : Dk) : Nat := d.syn.length + d.pend.length
def mT (d : Dk) : Nat := tot d.syn + totA d.pend
theorem push_bd (d : Dk) (a : Ac) : mN (pushF d a).1 ≤ mN d + 1 ∧ mT (pushF d a).1 ≤ mT d + a.b.length := by
  unfold pushF
  split
  · refine ⟨?_, ?_⟩
    · show d.syn.length + (d.pend ++ [a]).length ≤ _
      unfold mN
      simp
      omega
    · show tot d.syn + totA (d.pend ++ [a]) ≤ _
      rw [totA_app, totA_one]
      unfold mT
      omega
  · exact ⟨by show mN d ≤ _; omega, by show mT d ≤ _; omega⟩
theorem do_bd (d : Dk) (a : Ac) : mN (doF d a).1 ≤ mN d + 1 ∧ mT (doF d a).1 ≤ mT d + a.b.length := by
  have h0 : mN d ≤ mN d + 1 ∧ mT d ≤ mT d + a.b.length := ⟨by omega, by omega⟩
  have hn := now_bd d.pend d.syn
  have hp := push_bd d a
  unfold doF
  split
  · split
    · refine ⟨?_, ?_⟩
      · show (nowF d).length + 0 ≤ _
        unfold nowF mN
        omega
      · show tot (nowF d) + totA [] ≤ _
        unfold nowF mT
        simp [totA]
        unfold totA at hn
        omega
    · exact h0
  split
  · have hc := cr_bd a.keep a.torn a.cut d.pend 0 d.syn
    refine ⟨?_, ?_⟩
    · show (crF a.keep a.torn a.cut 0 d.syn d.pend).length + 0 ≤ _
      unfold mN
      omega
    · show tot (crF a.keep a.torn a.cut 0 d.syn d.pend) + totA [] ≤ _
      have e0 : totA [] = 0 := rfl
      unfold mT
      omega
  split
  · exact h0
  split
  · split <;> exact h0
  split
  · exact h0
  split
  · exact h0
  split
  · unfold sizeR
    split
    · exact h0
    · exact hp
  · unfold findR
    split
    · exact h0
    · exact hp
def i64R (x : Int) : Prop := -9223372036854775808 ≤ x ∧ x ≤ 9223372036854775807
theorem burn_fuse (d : Dk) (h : i64R d.fuse) : i64R (burnF d).1.fuse := by
  unfold burnF i64R at *
  dsimp only
  split <;> omega
theorem push_fuse (d : Dk) (a : Ac) (h : i64R d.fuse) : i64R (pushF d a).1.fuse ∧ (pushF d a).1.room = d.room := by
  unfold pushF
  split
  · exact ⟨burn_fuse d h, rfl⟩
  · exact ⟨burn_fuse d h, rfl⟩
theorem dk_fuse (d : Dk) (a : Ac) (h : i64R d.fuse) (hm : i64R a.m) : i64R (doF d a).1.fuse ∧ (doF d a).1.room = d.room := by
  have hp := push_fuse d a h
  unfold doF
  split
  · split
    · exact ⟨burn_fuse d h, rfl⟩
    · exact ⟨burn_fuse d h, rfl⟩
  split
  · exact ⟨by show i64R (-1); unfold i64R; omega, rfl⟩
  split
  · exact ⟨h, rfl⟩
  split
  · split
    · exact ⟨h, rfl⟩
    · exact ⟨hm, rfl⟩
  split
  · exact ⟨h, rfl⟩
  split
  · exact ⟨h, rfl⟩
  split
  · unfold sizeR
    split
    · exact ⟨h, rfl⟩
    · exact hp
  · unfold findR
    split
    · exact ⟨h, rfl⟩
    · exact hp
theorem dk_sm {d : Dk} (hn : mN d ≤ 500000) (ht : mT d ≤ 1000000000) (hr : 0 ≤ d.room ∧ d.room ≤ 9223372036854775807) (hf : i64R d.fuse) : DkSm d := ⟨hn, ht, hr, hf⟩
end Go.V
