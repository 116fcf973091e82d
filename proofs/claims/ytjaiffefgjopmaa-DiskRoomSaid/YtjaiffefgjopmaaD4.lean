/- D4: layer 10: the document's New, crash. -/
import Derived.Test.YtjaiffefgjopmaaD3
namespace Go.V
open Go.RowKit
def roomF (x : Int) : Int := if x < 0 then 0 else if 1048576 < x then 1048576 else x
/-- an act of which the first c bytes alone were put -/
def tornF (a : Ac) (c : Int) : Ac := { a with b := a.b.take (if c < 0 then 0 else c.toNat) }
def crS (keep : Nat) (torn cut : Int) (l : List Fl) (i : Nat) (a : Ac) : List Fl :=
  if (i : Int) = torn ∧ a.k ≤ 1 then doneF l (tornF a cut) else if keep / 2 ^ (i % 64) % 2 = 1 then doneF l a else l
def crF (keep : Nat) (torn cut : Int) : Nat → List Fl → List Ac → List Fl
  | _, l, [] => l
  | i, l, a :: p => crF keep torn cut (i + 1) (crS keep torn cut l i a) p
def crashF (d : Dk) (keep : Nat) (torn cut : Int) : Dk := { d with syn := crF keep torn cut 0 d.syn d.pend, pend := [], fuse := -1, down := false }
theorem cr_snoc (keep : Nat) (torn cut : Int) : ∀ (p : List Ac) (i : Nat) (l : List Fl) (a : Ac), crF keep torn cut i l (p ++ [a]) = crS keep torn cut (crF keep torn cut i l p) (i + p.length) a
  | [], i, l, a => rfl
  | b :: p, i, l, a => by
    rw [List.cons_append, crF, cr_snoc keep torn cut p (i + 1), crF, List.length_cons, show i + 1 + p.length = i + (p.length + 1) from by omega]
theorem crS_bd (keep : Nat) (torn cut : Int) (l : List Fl) (i : Nat) (a : Ac) : (crS keep torn cut l i a).length ≤ l.length + 1 ∧ tot (crS keep torn cut l i a) ≤ tot l + a.b.length := by
  unfold crS
  split
  · have h1 := done_len l (tornF a cut)
    have h2 := done_tot l (tornF a cut)
    have h3 : (tornF a cut).b.length ≤ a.b.length := by unfold tornF; simp; omega
    exact ⟨h1, by omega⟩
  · split
    · exact ⟨done_len _ _, done_tot _ _⟩
    · exact ⟨by omega, by omega⟩
theorem cr_bd (keep : Nat) (torn cut : Int) : ∀ (p : List Ac) (i : Nat) (l : List Fl), (crF keep torn cut i l p).length ≤ l.length + p.length ∧ tot (crF keep torn cut i l p) ≤ tot l + totA p
  | [], i, l => ⟨by simp [crF], by simp [crF, totA]⟩
  | a :: p, i, l => by
    have h := cr_bd keep torn cut p (i + 1) (crS keep torn cut l i a)
    have h1 := crS_bd keep torn cut l i a
    have e2 : totA (a :: p) = a.b.length + totA p := by unfold totA; simp
    rw [crF, e2, List.length_cons]
    exact ⟨by omega, by omega⟩
theorem bit_step (k j : Nat) : k / 2 ^ j / 2 = k / 2 ^ (j + 1) := by rw [Nat.div_div_eq_div_mul, Nat.pow_succ]
end Go.V
namespace Go.Proofs.Ytjaiffefgjopmaa
open Go.RowKit Go.V
theorem zeroAc : (Try.prog.info? 34).map (·.zero) = some (some (.agg zAc.toArray)) := by kernel_rfl
theorem bldDk (x : Int) : ∀ W : World, (Instr.build 42 #[(0, .int .i64 x), (3, .int .i64 (-1))]).run Try.prog W = .ok (.agg #[.int .i64 x, .slice none 0 0, .slice none 0 0, .int .i64 (-1), .bool false]) W := fun _ => by kernel_rfl
theorem rx_new (N : Nat → Prop) (x : Int) (w w' : World) (hb : Blk w' w.heap.size 42 [.int .i64 x, .slice none 0 0, .slice none 0 0, .int .i64 (-1), .bool false]) : RX w' w.heap.size none N ⟨x, [], [], -1, false⟩ :=
  ⟨.slice none 0 0, .slice none 0 0, [], hb, wds_nil, World.ownsRow_nil _ _ _ _, rfl, rfl, by simp⟩
set_option maxHeartbeats 1000000 in
theorem new_any10 (N : Nat → Prop) (x : Int) (w : World) :
    Calls Try.prog 12 #[.int .i64 x] w fun e w' => e = .returned (.pointer (some ⟨w.heap.size, 0, none⟩)) ∧ RX w' w.heap.size none N ⟨roomF x, [], [], -1, false⟩ ∧ Below w.heap.size w w' := by
  have hbl := bldDk
  have hal : ∀ y : Int, Below w.heap.size w (w.alloc (.cells #[.int .i64 y, .slice none 0 0, .slice none 0 0, .int .i64 (-1), .bool false] 42)) := fun y => (Below.refl _ _).alloc (Nat.le_refl _) _
  have hrx : ∀ y : Int, RX (w.alloc (.cells #[.int .i64 y, .slice none 0 0, .slice none 0 0, .int .i64 (-1), .bool false] 42)) w.heap.size none N ⟨y, [], [], -1, false⟩ := fun y => rx_new N y w _ (Blk.new' w _ [.int .i64 y, .slice none 0 0, .slice none 0 0, .int .i64 (-1), .bool false])
  by_cases h1 : x < 0
  · have hr : Hid (roomF x = 0) := if_pos h1
    go_enter Try.func12, Try.ntmps12
    go_wp2
    go_ret
    exact ⟨rfl, by rw [hr.out]; exact hrx 0, hal 0⟩
  · by_cases h2 : 1048576 < x
    · have hr : Hid (roomF x = 1048576) := by show _ = _; unfold roomF; rw [if_neg h1, if_pos h2]
      go_enter Try.func12, Try.ntmps12
      go_wp2
      go_ret
      exact ⟨rfl, by rw [hr.out]; exact hrx _, hal _⟩
    · have hr : Hid (roomF x = x) := by show _ = _; unfold roomF; rw [if_neg h1, if_neg h2]
      go_enter Try.func12, Try.ntmps12
      go_wp2
      go_ret
      exact ⟨rfl, by rw [hr.out]; exact hrx _, hal _⟩
theorem tornF_l (a : Ac) (c : Int) (u : Value) : (tornF a c).l u = a.l u := rfl
theorem rd_own10 {w w' : World} {p : Nat} {n : Nat} {v : Value} {xs : List Value} (ho : w.ownsRow 0 34 8 v n xs) (hC : Ch (only10 p) w w') (hp : v.ownBlock ≠ some p) : w'.ownsRow 0 34 8 v n xs :=
  own_keep10 ho (fun k hk he => hC.block k hk (fun h => by have h' : k = p := h; rw [h'] at he; exact hp he))
end Go.Proofs.Ytjaiffefgjopmaa
