/- DC: layer 10: contracts of package disk over the landed code. -/
import Derived.Test.YtijhicfegbaadaaDoorE9
namespace Go.Proofs.YtijhicfegbaadaaDoor
open Go.RowKit Go.V Go.Maps
/-- the landed disk at v, in the document's words d: it may write the blocks of M, and reads those of F beside them -/
def IX (w : World) (v : Value) (M F : Nat → Prop) (d : Dk) : Prop :=
  ∃ (x s f : Nat) (Ms Mf : Nat → Prop) (c : Nat → Nat) (vp : Value) (xs : List Value), v = .pointer (some ⟨x, 0, none⟩) ∧ IE w x s f Ms Mf F c d vp xs ∧ ∀ y, M y ↔ mIE x s f Ms Mf vp y
theorem IX.keep {w w' : World} {v : Value} {M F : Nat → Prop} {d : Dk} (h : IX w v M F d) (hk : ∀ b, b < w.heap.size → M b ∨ F b → w'.heap[b]? = w.heap[b]?) (hs : w.heap.size ≤ w'.heap.size) : IX w' v M F d := by
  obtain ⟨x, s, f, Ms, Mf, c, vp, xs, hv, hI, hM⟩ := h
  exact ⟨x, s, f, Ms, Mf, c, vp, xs, hv, hI.keep (fun y hy e => hk y hy (e.imp (hM y).2 id)) hs, hM⟩
theorem IX.bd {w : World} {v : Value} {M F : Nat → Prop} {d : Dk} (h : IX w v M F d) : ∀ b, M b ∨ F b → b < w.heap.size := by
  obtain ⟨x, s, f, Ms, Mf, c, vp, xs, hv, hI, hM⟩ := h
  exact fun y e => hI.bd y (e.imp (hM y).1 id)
theorem IX.ptr {w : World} {v : Value} {M F : Nat → Prop} {d : Dk} (h : IX w v M F d) : ∃ x, v = .pointer (some ⟨x, 0, none⟩) := by
  obtain ⟨x, s, f, Ms, Mf, c, vp, xs, hv, hI, hM⟩ := h
  exact ⟨x, hv⟩
theorem IX.nm {w : World} {v : Value} {M F : Nat → Prop} {d : Dk} (h : IX w v M F d) : ∀ f ∈ nowF d, f.n.size ≤ maxLen := by
  obtain ⟨x, s, f, Ms, Mf, c, vp, xs, hv, hI, hM⟩ := h
  exact fun g hg => by have := hI.nf g hg; simp only [maxLen]; omega
/-- what is left of a disk that may have written -/
def IXp (w : World) (M F : Nat → Prop) (v' : Value) (d : Dk) (w' : World) : Prop :=
  ∃ M' F', IX w' v' M' F' d ∧ Ch M w w' ∧ (∀ b, M' b → M b ∨ w.heap.size ≤ b) ∧ (∀ b, F' b → F b ∨ M b ∨ w.heap.size ≤ b)
theorem LfE.out {w w' : World} {x s f : Nat} {Ms Mf M F : Nat → Prop} {vp : Value} {r : Dk} (h : LfE w x s f Ms Mf F vp r w') (hM : ∀ y, M y ↔ mIE x s f Ms Mf vp y) : IXp w M F (.pointer (some ⟨x, 0, none⟩)) r w' := by
  obtain ⟨s', f', Ms', Mf', F', c', vp', xs', hI, hC, h1, h2⟩ := h
  exact ⟨mIE x s' f' Ms' Mf' vp', F', ⟨x, s', f', Ms', Mf', c', vp', xs', rfl, hI, fun _ => Iff.rfl⟩, hC.weaken (fun y _ e => (hM y).2 e), fun y e => (h1 y e).imp (hM y).2 id, fun y e => (h2 y e).imp id (fun e => e.imp (hM y).2 id)⟩
theorem new10_any (x : Int) (w : World) : Calls Tryd.prog 9 #[.int .i64 x] w fun e w' => ∃ v M F, e = .returned v ∧ IX w' v M F ⟨roomF x, [], [], -1, false⟩ ∧ Below w.heap.size w w' ∧ (∀ b, M b ∨ F b → w.heap.size ≤ b) := by
  refine (new10_e x w).mono ?_
  rintro e w1 ⟨g, s, f, Ms, Mf, c, rfl, hI, hB, hM⟩
  exact ⟨_, _, _, rfl, ⟨g, s, f, Ms, Mf, c, _, _, rfl, hI, fun _ => Iff.rfl⟩, hB, fun y e => e.elim (hM y) (fun e => e.elim)⟩
theorem append10_any (v : Value) (M F G : Nat → Prop) (d : Dk) (a : Ac) (va : Value) (w : World) (h : IX w v M F d) (hs : DkSm d) (ha : AcSm a) (hk : a.k = 0) (hva : Rd w G va (bys a.b)) (hG : ∀ b, G b → ¬ M b) :
    Calls Tryd.prog 19 #[v, .string a.n, va] w fun e w' => e = .returned (.int .i64 (doF d a).2) ∧ IXp w M F v (doF d a).1 w' := by
  obtain ⟨x, s, f, Ms, Mf, c, vp, xs, rfl, hI, hM⟩ := h
  refine (append_e x s f Ms Mf F G c d vp xs a va w hI hs ha hk hva (fun y e e2 => hG y e ((hM y).2 (.inl e2)))).mono ?_
  rintro e w1 ⟨rfl, hL⟩
  exact ⟨rfl, hL.out hM⟩
theorem write10_any (v : Value) (M F G : Nat → Prop) (d : Dk) (a : Ac) (va : Value) (w : World) (h : IX w v M F d) (hs : DkSm d) (ha : AcSm a) (hk : a.k = 1) (hva : Rd w G va (bys a.b)) (hG : ∀ b, G b → ¬ M b) :
    Calls Tryd.prog 10 #[v, .string a.n, va] w fun e w' => e = .returned (.int .i64 (doF d a).2) ∧ IXp w M F v (doF d a).1 w' := by
  obtain ⟨x, s, f, Ms, Mf, c, vp, xs, rfl, hI, hM⟩ := h
  refine (write_e x s f Ms Mf F G c d vp xs a va w hI hs ha hk hva (fun y e e2 => hG y e ((hM y).2 (.inl e2)))).mono ?_
  rintro e w1 ⟨rfl, hL⟩
  exact ⟨rfl, hL.out hM⟩
theorem rename10_any (v : Value) (M F : Nat → Prop) (d : Dk) (a : Ac) (w : World) (h : IX w v M F d) (hs : DkSm d) (ha : AcSm a) (hk : a.k = 2) :
    Calls Tryd.prog 22 #[v, .string a.n, .string a.t] w fun e w' => e = .returned (.int .i64 (doF d a).2) ∧ IXp w M F v (doF d a).1 w' := by
  obtain ⟨x, s, f, Ms, Mf, c, vp, xs, rfl, hI, hM⟩ := h
  refine (rename10_e x s f Ms Mf F c d vp xs a w hI hs ha hk).mono ?_
  rintro e w1 ⟨rfl, hL⟩
  exact ⟨rfl, hL.out hM⟩
theorem sync10_any (v : Value) (M F : Nat → Prop) (d : Dk) (a : Ac) (w : World) (h : IX w v M F d) (hs : DkSm d) (hk : a.k = 4) :
    Calls Tryd.prog 21 #[v] w fun e w' => e = .returned (.tuple #[]) ∧ IXp w M F v (doF d a).1 w' := by
  obtain ⟨x, s, f, Ms, Mf, c, vp, xs, rfl, hI, hM⟩ := h
  refine (sync_e x s f Ms Mf F c d vp xs a w hI hs hk).mono ?_
  rintro e w1 ⟨rfl, hL⟩
  exact ⟨rfl, hL.out hM⟩
theorem crash10_any (v : Value) (M F : Nat → Prop) (d : Dk) (a : Ac) (w : World) (h : IX w v M F d) (hs : DkSm d) (ha : AcSm a) (hk : a.k = 5) :
    Calls Tryd.prog 20 #[v, .agg #[.int .u64 (a.keep : Int), .int .i64 a.torn, .int .i64 a.cut]] w fun e w' => e = .returned (.tuple #[]) ∧ IXp w M F v (doF d a).1 w' := by
  obtain ⟨x, s, f, Ms, Mf, c, vp, xs, rfl, hI, hM⟩ := h
  have hd : (doF d a).1 = crashF d a.keep a.torn a.cut := by
    unfold doF
    rw [if_neg (by omega), if_pos hk]
  rw [hd]
  refine (crash_e x s f Ms Mf F c d vp xs a.keep a.torn a.cut w hI hs ha.keep).mono ?_
  rintro e w1 ⟨rfl, hL⟩
  exact ⟨rfl, hL.out hM⟩
theorem read10_any (v : Value) (M F : Nat → Prop) (d : Dk) (n : ByteArray) (w : World) (h : IX w v M F d) (hs : DkSm d) (hn : n.size ≤ maxLen) :
    Calls Tryd.prog 17 #[v, .string n] w fun e w' => ∃ vb, e = .returned (.tuple #[vb, .int .i64 (if (findF (nowF d) n).isSome = true then 0 else 13)]) ∧ Rd w' (fun b => w.heap.size ≤ b) vb (bys ((findF (nowF d) n).getD [])) ∧ Below w.heap.size w w' := by
  obtain ⟨x, s, f, Ms, Mf, c, vp, xs, rfl, hI, hM⟩ := h
  exact read_e x s f Ms Mf F c d vp xs n w hI hs hn
theorem pending10_any (v : Value) (M F : Nat → Prop) (d : Dk) (w : World) (h : IX w v M F d) (_hs : DkSm d) :
    Calls Tryd.prog 18 #[v] w fun e w' => e = .returned (.int .i64 (d.pend.length : Int)) ∧ Below w.heap.size w w' := by
  obtain ⟨x, s, f, Ms, Mf, c, vp, xs, rfl, hI, hM⟩ := h
  refine (pending_e x s f Ms Mf F c d vp xs w hI).mono ?_
  rintro e w1 ⟨rfl, rfl⟩
  exact ⟨rfl, Below.refl _ _⟩
theorem down10_any (v : Value) (M F : Nat → Prop) (d : Dk) (w : World) (h : IX w v M F d) :
    Calls Tryd.prog 30 #[v] w fun e w' => e = .returned (.bool d.down) ∧ Below w.heap.size w w' := by
  obtain ⟨x, s, f, Ms, Mf, c, vp, xs, rfl, hI, hM⟩ := h
  refine (down_e x s f Ms Mf F c d vp xs w hI).mono ?_
  rintro e w1 ⟨rfl, rfl⟩
  exact ⟨rfl, Below.refl _ _⟩
/-! a disk that is not there -/
set_option maxRecDepth 100000 in
theorem do_nil (k : Int) (n t : ByteArray) (A : Option Addr) (m c : Nat) (w : World) :
    Calls Tryd.prog 23 #[.pointer none, .agg #[.int .i64 k, .string n, .string t, .slice A m c]] w fun e w' => e = .returned (.int .i64 16) ∧ Below w.heap.size w w' := by
  go_enter Tryd.func23, Tryd.ntmps23
  go_wp2
  go_ret
  exact ⟨rfl, (Below.refl _ _).alloc (Nat.le_refl _) _⟩
set_option maxRecDepth 100000 in
theorem append10_nil (n : ByteArray) (A : Option Addr) (k c : Nat) (w : World) :
    Calls Tryd.prog 19 #[.pointer none, .string n, .slice A k c] w fun e w' => e = .returned (.int .i64 16) ∧ Below w.heap.size w w' := by
  go_enter Tryd.func19, Tryd.ntmps19
  go_wp2_with (fail)
  refine (do_nil 0 n ByteArray.empty A k c _).mono ?_
  rintro e w1 ⟨rfl, hB⟩
  go_wp2
  go_ret
  exact ⟨rfl, hB⟩
set_option maxRecDepth 100000 in
theorem write10_nil (n : ByteArray) (A : Option Addr) (k c : Nat) (w : World) :
    Calls Tryd.prog 10 #[.pointer none, .string n, .slice A k c] w fun e w' => e = .returned (.int .i64 16) ∧ Below w.heap.size w w' := by
  go_enter Tryd.func10, Tryd.ntmps10
  go_wp2_with (fail)
  refine (do_nil 1 n ByteArray.empty A k c _).mono ?_
  rintro e w1 ⟨rfl, hB⟩
  go_wp2
  go_ret
  exact ⟨rfl, hB⟩
set_option maxRecDepth 100000 in
theorem rename10_nil (n t : ByteArray) (w : World) :
    Calls Tryd.prog 22 #[.pointer none, .string n, .string t] w fun e w' => e = .returned (.int .i64 16) ∧ Below w.heap.size w w' := by
  go_enter Tryd.func22, Tryd.ntmps22
  go_wp2_with (fail)
  refine (do_nil 2 n t none 0 0 _).mono ?_
  rintro e w1 ⟨rfl, hB⟩
  go_wp2
  go_ret
  exact ⟨rfl, hB⟩
set_option maxRecDepth 100000 in
theorem sync10_nil (w : World) :
    Calls Tryd.prog 21 #[.pointer none] w fun e w' => e = .returned (.tuple #[]) ∧ Below w.heap.size w w' := by
  go_enter Tryd.func21, Tryd.ntmps21
  go_wp2
  refine bodyPost_ret (results_none rfl _ _ _) rfl ?_
  exact ⟨rfl, Below.refl _ _⟩
set_option maxRecDepth 100000 in
theorem crash10_nil (keep : Nat) (torn cut : Int) (w : World) :
    Calls Tryd.prog 20 #[.pointer none, .agg #[.int .u64 (keep : Int), .int .i64 torn, .int .i64 cut]] w fun e w' => e = .returned (.tuple #[]) ∧ Below w.heap.size w w' := by
  go_enter Tryd.func20, Tryd.ntmps20
  go_wp2
  refine bodyPost_ret (results_none rfl _ _ _) rfl ?_
  exact ⟨rfl, (Below.refl _ _).alloc (Nat.le_refl _) _⟩
set_option maxRecDepth 100000 in
theorem read10_nil (n : ByteArray) (w : World) :
    Calls Tryd.prog 17 #[.pointer none, .string n] w fun e w' => ∃ A k c, e = .returned (.tuple #[.slice A k c, .int .i64 16]) ∧ Below w.heap.size w w' := by
  go_enter Tryd.func17, Tryd.ntmps17
  go_wp2
  go_ret2
  exact ⟨none, 0, 0, rfl, Below.refl _ _⟩
set_option maxRecDepth 100000 in
theorem pending10_nil (w : World) :
    Calls Tryd.prog 18 #[.pointer none] w fun e w' => e = .returned (.int .i64 0) ∧ Below w.heap.size w w' := by
  go_enter Tryd.func18, Tryd.ntmps18
  go_wp2
  go_ret
  exact ⟨rfl, Below.refl _ _⟩
end Go.Proofs.YtijhicfegbaadaaDoor
