/- DC: layer 10: contracts of package disk over the landed code. -/
import Derived.Test.YtjaiffefgjopmaaE9
namespace Go.Proofs.Ytjaiffefgjopmaa
open Go.RowKit Go.V Go.Maps
/-- the landed disk at v, in the document's words d: it may write the blocks of M, and reads those of F beside them -/
def IX (w : World) (v : Value) (M F : Nat → Prop) (d : Dk) : Prop :=
  ∃ (x s f : Nat) (Ms Mf : Nat → Prop) (c : Nat → Nat) (vp : Value) (xs : List Value), v = .pointer (some ⟨x, 0, none⟩) ∧ IE w x s f Ms Mf F c d vp xs ∧ ∀ y, M y ↔ mIE x s f Ms Mf vp y
theorem IX.keep {w w' : World} {v : Value} {M F : Nat → Prop} {d : Dk} (h : IX w v M F d) (hk : ∀ b, b < w.heap.size → M b ∨ F b → w'.heap[b]? = w.heap[b]?) (hs : w.heap.size ≤ w'.heap.size) : IX w' v M F d := by
  obtain ⟨x, s, f, Ms, Mf, c, vp, xs, hv, hI, hM⟩ := h
  exact ⟨x, s, f, Ms, Mf, c, vp, xs, hv, hI.keep (fun y hy e => hk y hy (e.imp (hM y).2 id)) hs, hM⟩
theorem IX.bd {w : World} {v : Value} {M F : Nat → Prop} {d : Dk} (h : IX w v M F d) : ∀ b, M b ∨ F b → b < w.heap.size := by
  obtain ⟨x, s, f, Ms, Mf, c, vp, xs, hv, hI, hM⟩ := h
  exact fun y e => hI.bd y (e.imp (hM y).1 id)
theorem IX.ptr {w : World} {v : Value} {M F : Nat → Prop} {d : Dk} (h : IX w v M F d) : ∃ x, v = .pointer (some ⟨x, 0, none⟩) := by
  obtain ⟨x, s, f, Ms, Mf, c, vp, xs, hv, hI, hM⟩ := h
  exact ⟨x, hv⟩
theorem IX.nm {w : World} {v : Value} {M F : Nat → Prop} {d : Dk} (h : IX w v M F d) : ∀ f ∈ nowF d, f.n.size ≤ maxLen := by
  obtain ⟨x, s, f, Ms, Mf, c, vp, xs, hv, hI, hM⟩ := h
  exact fun g hg => by have := hI.nf g hg; simp only [maxLen]; omega
/-- what is left of a disk that may have written -/
def IXp (w : World) (M F : Nat → Prop) (v' : Value) (d : Dk) (w' : World) : Prop :=
  ∃ M' F', IX w' v' M' F' d ∧ Ch M w w' ∧ (∀ b, M' b → M b ∨ w.heap.size ≤ b) ∧ (∀ b, F' b → F b ∨ M b ∨ w.heap.size ≤ b)
theorem LfE.out {w w' : World} {x s f : Nat} {Ms Mf M F : Nat → Prop} {vp : Value} {r : Dk} (h : LfE w x s f Ms Mf F vp r w') (hM : ∀ y, M y ↔ mIE x s f Ms Mf vp y) : IXp w M F (.pointer (some ⟨x, 0, none⟩)) r w' := by
  obtain ⟨s', f', Ms', Mf', F', c', vp', xs', hI, hC, h1, h2⟩ := h
  exact ⟨mIE x s' f' Ms' Mf' vp', F', ⟨x, s', f', Ms', Mf', c', vp', xs', rfl, hI, fun _ => Iff.rfl⟩, hC.weaken (fun y _ e => (hM y).2 e), fun y e => (h1 y e).imp (hM y).2 id, fun y e => (h2 y e).imp id (fun e => e.imp (hM y).2 id)⟩
theorem new10_any (x : Int) (w : World) : Calls Try.prog 11 #[.int .i64 x] w fun e w' => ∃ v M F, e = .returned v ∧ IX w' v M F ⟨roomF x, [], [], -1, false⟩ ∧ Below w.heap.size w w' ∧ (∀ b, M b ∨ F b → w.heap.size ≤ b) := by
  refine (new10_e x w).mono ?_
  rintro e w1 ⟨g, s, f, Ms, Mf, c, rfl, hI, hB, hM⟩
  exact ⟨_, _, _, rfl, ⟨g, s, f, Ms, Mf, c, _, _, rfl, hI, fun _ => Iff.rfl⟩, hB, fun y e => e.elim (hM y) (fun e => e.elim)⟩
theorem append10_any (v : Value) (M F G : Nat → Prop) (d : Dk) (a : Ac) (va : Value) (w : World) (h : IX w v M F d) (hs : DkSm d) (ha : AcSm a) (hk : a.k = 0) (hva : Rd w G va (bys a.b)) (hG : ∀ b, G b → ¬ M b) :
    Calls Try.prog 28 #[v, .string a.n, va] w fun e w' => e = .returned (.int .i64 (doF d a).2) ∧ IXp w M F v (doF d a).1 w' := by
  obtain ⟨x, s, f, Ms, Mf, c, vp, xs, rfl, hI, hM⟩ := h
  refine (append_e x s f Ms Mf F G c d vp xs a va w hI hs ha hk hva (fun y e e2 => hG y e ((hM y).2 (.inl e2)))).mono ?_
  rintro e w1 ⟨rfl, hL⟩
  exact ⟨rfl, hL.out hM⟩
theorem write10_any (v : Value) (M F G : Nat → Prop) (d : Dk) (a : Ac) (va : Value) (w : World) (h : IX w v M F d) (hs : DkSm d) (ha : AcSm a) (hk : a.k = 1) (hva : Rd w G va (bys a.b)) (hG : ∀ b, G b → ¬ M b) :
    Calls Try.prog 21 #[v, .string a.n, va] w fun e w' => e = .returned (.int .i64 (doF d a).2) ∧ IXp w M F v (doF d a).1 w' := by
  obtain ⟨x, s, f, Ms, Mf, c, vp, xs, rfl, hI, hM⟩ := h
  refine (write_e x s f Ms Mf F G c d vp xs a va w hI hs ha hk hva (fun y e e2 => hG y e ((hM y).2 (.inl e2)))).mono ?_
  rintro e w1 ⟨rfl, hL⟩
  exact ⟨rfl, hL.out hM⟩
theorem rename10_any (v : Value) (M F : Nat → Prop) (d : Dk) (a : Ac) (w : World) (h : IX w v M F d) (hs : DkSm d) (ha : AcSm a) (hk : a.k = 2) :
    Calls Try.prog 29 #[v, .string a.n, .string a.t] w fun e w' => e = .returned (.int .i64 (doF d a).2) ∧ IXp w M F v (doF d a).1 w' := by
  obtain ⟨x, s, f, Ms, Mf, c, vp, xs, rfl, hI, hM⟩ := h
  refine (rename10_e x s f Ms Mf F c d vp xs a w hI hs ha hk).mono ?_
  rintro e w1 ⟨rfl, hL⟩
  exact ⟨rfl, hL.out hM⟩
theorem delete10_any (v : Value) (M F : Nat → Prop) (d : Dk) (a : Ac) (w : World) (h : IX w v M F d) (hs : DkSm d) (ha : AcSm a) (hk : a.k = 3) :
    Calls Try.prog 30 #[v, .string a.n] w fun e w' => e = .returned (.int .i64 (doF d a).2) ∧ IXp w M F v (doF d a).1 w' := by
  obtain ⟨x, s, f, Ms, Mf, c, vp, xs, rfl, hI, hM⟩ := h
  refine (delete10_e x s f Ms Mf F c d vp xs a w hI hs ha hk).mono ?_
  rintro e w1 ⟨rfl, hL⟩
  exact ⟨rfl, hL.out hM⟩
theorem sync10_any (v : Value) (M F : Nat → Prop) (d : Dk) (a : Ac) (w : World) (h : IX w v M F d) (hs : DkSm d) (hk : a.k = 4) :
    Calls Try.prog 22 #[v] w fun e w' => e = .returned (.tuple #[]) ∧ IXp w M F v (doF d a).1 w' := by
  obtain ⟨x, s, f, Ms, Mf, c, vp, xs, rfl, hI, hM⟩ := h
  refine (sync_e x s f Ms Mf F c d vp xs a w hI hs hk).mono ?_
  rintro e w1 ⟨rfl, hL⟩
  exact ⟨rfl, hL.out hM⟩
theorem crash10_any (v : Value) (M F : Nat → Prop) (d : Dk) (a : Ac) (w : World) (h : IX w v M F d) (hs : DkSm d) (ha : AcSm a) (hk : a.k = 5) :
    Calls Try.prog 24 #[v, .agg #[.int .u64 (a.keep : Int), .int .i64 a.torn, .int .i64 a.cut]] w fun e w' => e = .returned (.tuple #[]) ∧ IXp w M F v (doF d a).1 w' := by
  obtain ⟨x, s, f, Ms, Mf, c, vp, xs, rfl, hI, hM⟩ := h
  have hd : (doF d a).1 = crashF d a.keep a.torn a.cut := by
    unfold doF
    rw [if_neg (by omega), if_pos hk]
  rw [hd]
  refine (crash_e x s f Ms Mf F c d vp xs a.keep a.torn a.cut w hI hs ha.keep).mono ?_
  rintro e w1 ⟨rfl, hL⟩
  exact ⟨rfl, hL.out hM⟩
theorem fuse10_any (v : Value) (M F : Nat → Prop) (d : Dk) (a : Ac) (w : World) (h : IX w v M F d) (_hs : DkSm d) (ha : AcSm a) (hk : a.k = 7) :
    Calls Try.prog 31 #[v, .int .i64 a.m] w fun e w' => e = .returned (.tuple #[]) ∧ IXp w M F v (doF d a).1 w' := by
  obtain ⟨x, s, f, Ms, Mf, c, vp, xs, rfl, hI, hM⟩ := h
  refine (fuse_e x s f Ms Mf F c d vp xs a w hI ha hk).mono ?_
  rintro e w1 ⟨rfl, hL⟩
  exact ⟨rfl, hL.out hM⟩
/-- a copy, and the disk itself behind it: neither writes what the other reads -/
theorem copy10_any (v : Value) (M F : Nat → Prop) (d : Dk) (w : World) (h : IX w v M F d) (hs : DkSm d) :
    Calls Try.prog 25 #[v] w fun e w' => ∃ v2 M1 F1 M2 F2, e = .returned v2 ∧ IX w' v M1 F1 d ∧ IX w' v2 M2 F2 d ∧ Ch M w w' ∧ (∀ b, M1 b → M b ∨ w.heap.size ≤ b) ∧ (∀ b, F1 b → F b ∨ M b ∨ w.heap.size ≤ b) ∧ (∀ b, M2 b → M b ∨ w.heap.size ≤ b) ∧ (∀ b, F2 b → F b ∨ M b ∨ w.heap.size ≤ b) ∧ (∀ b, M1 b → ¬ M2 b ∧ ¬ F2 b) ∧ (∀ b, M2 b → ¬ F1 b) := by
  have hbd := h.bd
  obtain ⟨x, s, f, Ms, Mf, c, vp, xs, rfl, hI, hM⟩ := h
  refine (copy_e x s f Ms Mf F c d vp xs w hI hs).mono ?_
  rintro e w1 ⟨x2, s2, f2, M1, M2, c2, vp2, rfl, h1, h2, hB, hM2⟩
  refine ⟨_, M, F, mIE x2 s2 f2 M1 M2 vp2, F, rfl, ⟨x, s, f, Ms, Mf, c, vp, xs, rfl, h1, hM⟩, ⟨x2, s2, f2, M1, M2, c2, vp2, xs, rfl, h2, fun _ => Iff.rfl⟩, (Ch.of_below hB).weaken (fun _ _ e => e.elim), fun _ e => .inl e, fun _ e => .inl e, fun y e => .inr (hM2 y e), fun _ e => .inl e, fun y e => ⟨fun e2 => ?_, fun e2 => ?_⟩, fun y e e2 => ?_⟩
  · have := hM2 y e2
    have := hbd y (.inl e)
    omega
  · have h6 := (hI.cF y e2).1
    rcases (hM y).1 e with e | e | e | e | e | e
    · have := hI.cx; rw [e] at h6; omega
    · have := hI.cs; rw [e] at h6; omega
    · have := hI.cf; rw [e] at h6; omega
    · have := (hI.cm y e).1; omega
    · have := (hI.cn y e).1; omega
    · have := hI.cv y e; omega
  · have := hM2 y e
    have := hbd y (.inr e2)
    omega
theorem read10_any (v : Value) (M F : Nat → Prop) (d : Dk) (n : ByteArray) (w : World) (h : IX w v M F d) (hs : DkSm d) (hn : n.size ≤ maxLen) :
    Calls Try.prog 23 #[v, .string n] w fun e w' => ∃ vb, e = .returned (.tuple #[vb, .int .i64 (if (findF (nowF d) n).isSome = true then 0 else 13)]) ∧ Rd w' (fun b => w.heap.size ≤ b) vb (bys ((findF (nowF d) n).getD [])) ∧ Below w.heap.size w w' := by
  obtain ⟨x, s, f, Ms, Mf, c, vp, xs, rfl, hI, hM⟩ := h
  exact read_e x s f Ms Mf F c d vp xs n w hI hs hn
theorem names10_any (v : Value) (M F : Nat → Prop) (d : Dk) (w : World) (h : IX w v M F d) (hs : DkSm d) :
    Calls Try.prog 27 #[v] w fun e w' => ∃ vn, e = .returned vn ∧ Rd w' (fun b => w.heap.size ≤ b) vn (strs ((nowF d).map Fl.n)) ∧ Below w.heap.size w w' := by
  obtain ⟨x, s, f, Ms, Mf, c, vp, xs, rfl, hI, hM⟩ := h
  exact names10_e x s f Ms Mf F c d vp xs w hI hs
theorem pending10_any (v : Value) (M F : Nat → Prop) (d : Dk) (w : World) (h : IX w v M F d) (_hs : DkSm d) :
    Calls Try.prog 19 #[v] w fun e w' => e = .returned (.int .i64 (d.pend.length : Int)) ∧ Below w.heap.size w w' := by
  obtain ⟨x, s, f, Ms, Mf, c, vp, xs, rfl, hI, hM⟩ := h
  refine (pending_e x s f Ms Mf F c d vp xs w hI).mono ?_
  rintro e w1 ⟨rfl, rfl⟩
  exact ⟨rfl, Below.refl _ _⟩
theorem down10_any (v : Value) (M F : Nat → Prop) (d : Dk) (w : World) (h : IX w v M F d) :
    Calls Try.prog 16 #[v] w fun e w' => e = .returned (.bool d.down) ∧ Below w.heap.size w w' := by
  obtain ⟨x, s, f, Ms, Mf, c, vp, xs, rfl, hI, hM⟩ := h
  refine (down_e x s f Ms Mf F c d vp xs w hI).mono ?_
  rintro e w1 ⟨rfl, rfl⟩
  exact ⟨rfl, Below.refl _ _⟩
/-! a disk that is not there -/
set_option maxRecDepth 100000 in
theorem do_nil (k : Int) (n t : ByteArray) (A : Option Addr) (m c : Nat) (w : World) :
    Calls Try.prog 37 #[.pointer none, .agg #[.int .i64 k, .string n, .string t, .slice A m c]] w fun e w' => e = .returned (.int .i64 16) ∧ Below w.heap.size w w' := by
  go_enter Try.func37, Try.ntmps37
  go_wp2
  go_ret
  exact ⟨rfl, (Below.refl _ _).alloc (Nat.le_refl _) _⟩
set_option maxRecDepth 100000 in
theorem append10_nil (n : ByteArray) (A : Option Addr) (k c : Nat) (w : World) :
    Calls Try.prog 28 #[.pointer none, .string n, .slice A k c] w fun e w' => e = .returned (.int .i64 16) ∧ Below w.heap.size w w' := by
  go_enter Try.func28, Try.ntmps28
  go_wp2_with (fail)
  refine (do_nil 0 n ByteArray.empty A k c _).mono ?_
  rintro e w1 ⟨rfl, hB⟩
  go_wp2
  go_ret
  exact ⟨rfl, hB⟩
set_option maxRecDepth 100000 in
theorem write10_nil (n : ByteArray) (A : Option Addr) (k c : Nat) (w : World) :
    Calls Try.prog 21 #[.pointer none, .string n, .slice A k c] w fun e w' => e = .returned (.int .i64 16) ∧ Below w.heap.size w w' := by
  go_enter Try.func21, Try.ntmps21
  go_wp2_with (fail)
  refine (do_nil 1 n ByteArray.empty A k c _).mono ?_
  rintro e w1 ⟨rfl, hB⟩
  go_wp2
  go_ret
  exact ⟨rfl, hB⟩
set_option maxRecDepth 100000 in
theorem rename10_nil (n t : ByteArray) (w : World) :
    Calls Try.prog 29 #[.pointer none, .string n, .string t] w fun e w' => e = .returned (.int .i64 16) ∧ Below w.heap.size w w' := by
  go_enter Try.func29, Try.ntmps29
  go_wp2_with (fail)
  refine (do_nil 2 n t none 0 0 _).mono ?_
  rintro e w1 ⟨rfl, hB⟩
  go_wp2
  go_ret
  exact ⟨rfl, hB⟩
set_option maxRecDepth 100000 in
theorem delete10_nil (n : ByteArray) (w : World) :
    Calls Try.prog 30 #[.pointer none, .string n] w fun e w' => e = .returned (.int .i64 16) ∧ Below w.heap.size w w' := by
  go_enter Try.func30, Try.ntmps30
  go_wp2_with (fail)
  refine (do_nil 3 n ByteArray.empty none 0 0 _).mono ?_
  rintro e w1 ⟨rfl, hB⟩
  go_wp2
  go_ret
  exact ⟨rfl, hB⟩
set_option maxRecDepth 100000 in
theorem sync10_nil (w : World) :
    Calls Try.prog 22 #[.pointer none] w fun e w' => e = .returned (.tuple #[]) ∧ Below w.heap.size w w' := by
  go_enter Try.func22, Try.ntmps22
  go_wp2
  refine bodyPost_ret (results_none rfl _ _ _) rfl ?_
  exact ⟨rfl, Below.refl _ _⟩
set_option maxRecDepth 100000 in
theorem crash10_nil (keep : Nat) (torn cut : Int) (w : World) :
    Calls Try.prog 24 #[.pointer none, .agg #[.int .u64 (keep : Int), .int .i64 torn, .int .i64 cut]] w fun e w' => e = .returned (.tuple #[]) ∧ Below w.heap.size w w' := by
  go_enter Try.func24, Try.ntmps24
  go_wp2
  refine bodyPost_ret (results_none rfl _ _ _) rfl ?_
  exact ⟨rfl, (Below.refl _ _).alloc (Nat.le_refl _) _⟩
set_option maxRecDepth 100000 in
theorem fuse10_nil (m : Int) (w : World) :
    Calls Try.prog 31 #[.pointer none, .int .i64 m] w fun e w' => e = .returned (.tuple #[]) ∧ Below w.heap.size w w' := by
  go_enter Try.func31, Try.ntmps31
  go_wp2
  refine bodyPost_ret (results_none rfl _ _ _) rfl ?_
  exact ⟨rfl, Below.refl _ _⟩
set_option maxRecDepth 100000 in
theorem copy10_nil (w : World) :
    Calls Try.prog 25 #[.pointer none] w fun e w' => e = .returned (.pointer none) ∧ Below w.heap.size w w' := by
  go_enter Try.func25, Try.ntmps25
  go_wp2
  go_ret
  exact ⟨rfl, Below.refl _ _⟩
set_option maxRecDepth 100000 in
theorem read10_nil (n : ByteArray) (w : World) :
    Calls Try.prog 23 #[.pointer none, .string n] w fun e w' => ∃ A k c, e = .returned (.tuple #[.slice A k c, .int .i64 16]) ∧ Below w.heap.size w w' := by
  go_enter Try.func23, Try.ntmps23
  go_wp2
  go_ret2
  exact ⟨none, 0, 0, rfl, Below.refl _ _⟩
set_option maxRecDepth 100000 in
theorem names10_nil (w : World) :
    Calls Try.prog 27 #[.pointer none] w fun e w' => ∃ A c, e = .returned (.slice A 0 c) ∧ Below w.heap.size w w' := by
  go_enter Try.func27, Try.ntmps27
  go_wp2
  go_ret
  exact ⟨none, 0, rfl, Below.refl _ _⟩
set_option maxRecDepth 100000 in
theorem pending10_nil (w : World) :
    Calls Try.prog 19 #[.pointer none] w fun e w' => e = .returned (.int .i64 0) ∧ Below w.heap.size w w' := by
  go_enter Try.func19, Try.ntmps19
  go_wp2
  go_ret
  exact ⟨rfl, Below.refl _ _⟩
end Go.Proofs.Ytjaiffefgjopmaa
