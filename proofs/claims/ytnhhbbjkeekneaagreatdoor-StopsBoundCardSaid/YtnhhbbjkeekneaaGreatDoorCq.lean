/- Cq: several texts in one (W3 Cp Xp Cq). -/
import Derived.Test.YtnhhbbjkeekneaaGreatDoorM1
import Derived.Test.YtnhhbbjkeekneaaGreatDoorW2
import Derived.Test.YtnhhbbjkeekneaaGreatDoorVA
import Derived.Test.YtnhhbbjkeekneaaGreatDoorYC
import Derived.Test.YtnhhbbjkeekneaaGreatDoorSA
/- W3: layer 6: contracts of package views: how many must agree, who leads. -/
namespace Go.V
open Go.RowKit
def fltN (n : Int) (M : Nat) : Nat := if rgt n M then (szM M - 1) / 3 else 0
def quoN (n : Int) (M : Nat) : Nat := if rgt n M then (szM M + fltN n M) / 2 + 1 else 0
def enoN (n : Int) (M : Nat) : Nat := if rgt n M then szM M - fltN n M else 0
def somN (n : Int) (M : Nat) : Nat := if rgt n M then fltN n M + 1 else 0
theorem rgt_sz {n : Int} {M : Nat} (h : rgt n M = true) : 0 ≤ n ∧ n ≤ 60 ∧ 4 ≤ szM M ∧ szM M ≤ 7 := by unfold rgt at h; exact of_decide_eq_true h
end Go.V
namespace Go.Proofs.YtnhhbbjkeekneaaGreatDoor
open Go.RowKit Go.V
theorem sizeV : (Tryz.prog.info? 24).map (·.size) = some 2 := by kernel_rfl
theorem flt_any (n : Int) (M : Nat) (w : World) (h : M < 65536) :
    Calls Tryz.prog 38 #[vw n M] w fun e w' => e = .returned (.int .i64 (fltN n M : Int)) ∧ Below w.heap.size w w' := by
  have hsz := (size_any n M · h)
  have hrt := (right_any n M · h)
  unfold vw at hsz hrt ⊢
  have hb := Blk.new' w 24 [.int .i64 n, .int .u16 (M : Int)]
  have hB : Below w.heap.size w (w.alloc (.cells #[.int .i64 n, .int .u16 (M : Int)] 24)) := (Below.refl _ _).alloc (Nat.le_refl _) _
  have hz := rgt_sz (n := n) (M := M)
  have hf : fltN n M = if rgt n M then (szM M - 1) / 3 else 0 := rfl
  obtain ⟨f, hfe⟩ : ∃ f, f = fltN n M := ⟨_, rfl⟩
  rw [← hfe] at hf ⊢
  obtain ⟨s, hs⟩ : ∃ s, s = szM M := ⟨_, rfl⟩
  rw [← hs] at hf hz hsz
  go_enter Tryz.func38, Tryz.ntmps38
  go_wp2_with (fail)
  refine (hrt _).mono ?_
  rintro e w1 ⟨rfl, hB1⟩
  have hb1 := hb.below hB1
  have hB1' := hB.trans (hB1.mono hB.size)
  have c0 := hb1.cellAt 0 _ rfl
  have c1 := hb1.cellAt 1 _ rfl
  clear hfe hs
  cases hr : rgt n M with
  | true =>
    rw [hr, if_pos rfl] at hf
    have hz := hz hr
    have Hf := hid hf
    clear hf hr
    go_wp2_with (fail)
    refine (hsz _).mono ?_
    rintro e w2 ⟨rfl, hB2⟩
    go_wp2
    go_ret
    exact ⟨ret_i (by rw [Hf.out]; omega), hB1'.trans (hB2.mono hB1'.size)⟩
  | false =>
    rw [hr] at hf
    have hf : f = 0 := hf
    have Hf := hid hf
    clear hf hr
    go_wp2
    go_ret
    exact ⟨ret_i (by rw [Hf.out]; rfl), hB1'⟩
set_option maxHeartbeats 1000000 in
theorem quo_any (n : Int) (M : Nat) (w : World) (h : M < 65536) :
    Calls Tryz.prog 87 #[vw n M] w fun e w' => e = .returned (.int .i64 (quoN n M : Int)) ∧ Below w.heap.size w w' := by
  have hsz := (size_any n M · h)
  have hrt := (right_any n M · h)
  have hflt := (flt_any n M · h)
  unfold vw at hsz hrt hflt ⊢
  have hb := Blk.new' w 24 [.int .i64 n, .int .u16 (M : Int)]
  have hB : Below w.heap.size w (w.alloc (.cells #[.int .i64 n, .int .u16 (M : Int)] 24)) := (Below.refl _ _).alloc (Nat.le_refl _) _
  have hz := rgt_sz (n := n) (M := M)
  have hff : rgt n M = true → fltN n M = (szM M - 1) / 3 := fun h => by unfold fltN; rw [if_pos h]
  have hf : quoN n M = if rgt n M then (szM M + fltN n M) / 2 + 1 else 0 := rfl
  obtain ⟨q, hqe⟩ : ∃ q, q = quoN n M := ⟨_, rfl⟩
  rw [← hqe] at hf ⊢
  obtain ⟨f, hfe⟩ : ∃ f, f = fltN n M := ⟨_, rfl⟩
  rw [← hfe] at hf hff hflt
  obtain ⟨s, hs⟩ : ∃ s, s = szM M := ⟨_, rfl⟩
  try rw [← hs] at hf
  rw [← hs] at hz hsz hff
  go_enter Tryz.func87, Tryz.ntmps87
  go_wp2_with (fail)
  obtain ⟨w0, hw0⟩ : ∃ w0, w0 = w.alloc (.cells #[.int .i64 n, .int .u16 (M : Int)] 24) := ⟨_, rfl⟩
  rw [← hw0] at hb hB ⊢
  clear hw0
  obtain ⟨g, hg⟩ : ∃ g, g = w.heap.size := ⟨_, rfl⟩
  rw [← hg] at hb ⊢
  clear hg
  refine (hrt _).mono ?_
  rintro e wq ⟨rfl, hB1⟩
  have hb1 := hb.below hB1
  have hB1' := hB.trans (hB1.mono hB.size)
  have c0 := hb1.cellAt 0 _ rfl
  have c1 := hb1.cellAt 1 _ rfl
  have HV : Hid (∀ W, Ch nob wq W → W.rangeAt g 0 [.int .i64 n, .int .u16 (M : Int)]) := fun W h => hb1.chAt (fun h => h) h
  clear hqe hfe hs hb hb1
  cases hr : rgt n M with
  | true =>
    rw [hr, if_pos rfl] at hf
    have hz := hz hr
    have hff := hff hr
    have Hf := hid hf
    have Hff := hid hff
    have hfs : f ≤ s := by omega
    clear hf hr hff c0 c1
    go_wp2_with (fail)
    refine wp_region_noPanic ?_
    refine wp_region_held_drew (S := Ch nob wq) (by kernel_rfl) ((Ch.refl _ _).drew) (fun hHeld => ?_)
    refine tkY 0 rfl (yieldsIf_load_mid (by rfl) 24 (.tmp 1) (by rfl) _ (0) (by rfl) _ _ (fun _ hs => HV.out _ hs) Tryz.underlying24 rfl (sizeV)) ?_
    refine tkY 2 rfl (yieldsIf_load_mid (by rfl) 24 (.tmp 1) (by rfl) _ (0) (by rfl) _ _ (fun _ hs => HV.out _ hs) Tryz.underlying24 rfl (sizeV)) ?_
    refine rdH 1 rfl (fun K hK => ?_)
    go_simp
    refine (hsz _).mono ?_
    rintro e' w5 ⟨rfl, hB5⟩
    have hC5 := hHeld.belowG hB5
    refine hK.out _ _ (hC5) (fun hHeld => ?_)
    clear hK K
    try simp only [nP]
    refine rdH 3 rfl (fun K hK => ?_)
    go_simp
    refine (hflt _).mono ?_
    rintro e' w6 ⟨rfl, hB6⟩
    have hC6 := hHeld.belowG hB6
    refine hK.out _ _ (hC6) (fun hHeld => ?_)
    clear hK K
    try simp only [nP]
    refine tkP 4 rfl ?_
    refine tkP 5 rfl ?_
    refine tkP 6 rfl ?_
    refine tkP 7 rfl ?_
    refine wpAnyH_done (by kernel_rfl) ?_ _
    refine NoPanic.normal ?_
    go_wp2
    go_ret
    exact ⟨ret_i (by have := Hff.out; rw [Hf.out, IntWalk.i64_in ((s : Int) + f) (by omega), Int.tdiv_eq_ediv_of_nonneg (by omega), IntWalk.i64_in (((s : Int) + f) / 2) (by omega), IntWalk.i64_in (((s : Int) + f) / 2 + 1) (by omega)]; omega), hB1'.trans (hHeld.below.mono hB1'.size)⟩
  | false =>
    rw [hr] at hf
    have hf : q = 0 := hf
    have Hf := hid hf
    clear hf hr hff
    go_wp2
    go_ret
    exact ⟨ret_i (by rw [Hf.out]; rfl), hB1'⟩
set_option maxHeartbeats 1000000 in
theorem eno_any (n : Int) (M : Nat) (w : World) (h : M < 65536) :
    Calls Tryz.prog 20 #[vw n M] w fun e w' => e = .returned (.int .i64 (enoN n M : Int)) ∧ Below w.heap.size w w' := by
  have hsz := (size_any n M · h)
  have hrt := (right_any n M · h)
  have hflt := (flt_any n M · h)
  unfold vw at hsz hrt hflt ⊢
  have hb := Blk.new' w 24 [.int .i64 n, .int .u16 (M : Int)]
  have hB : Below w.heap.size w (w.alloc (.cells #[.int .i64 n, .int .u16 (M : Int)] 24)) := (Below.refl _ _).alloc (Nat.le_refl _) _
  have hz := rgt_sz (n := n) (M := M)
  have hff : rgt n M = true → fltN n M = (szM M - 1) / 3 := fun h => by unfold fltN; rw [if_pos h]
  have hf : enoN n M = if rgt n M then szM M - fltN n M else 0 := rfl
  obtain ⟨q, hqe⟩ : ∃ q, q = enoN n M := ⟨_, rfl⟩
  rw [← hqe] at hf ⊢
  obtain ⟨f, hfe⟩ : ∃ f, f = fltN n M := ⟨_, rfl⟩
  rw [← hfe] at hf hff hflt
  obtain ⟨s, hs⟩ : ∃ s, s = szM M := ⟨_, rfl⟩
  try rw [← hs] at hf
  rw [← hs] at hz hsz hff
  go_enter Tryz.func20, Tryz.ntmps20
  go_wp2_with (fail)
  obtain ⟨w0, hw0⟩ : ∃ w0, w0 = w.alloc (.cells #[.int .i64 n, .int .u16 (M : Int)] 24) := ⟨_, rfl⟩
  rw [← hw0] at hb hB ⊢
  clear hw0
  obtain ⟨g, hg⟩ : ∃ g, g = w.heap.size := ⟨_, rfl⟩
  rw [← hg] at hb ⊢
  clear hg
  refine (hrt _).mono ?_
  rintro e wq ⟨rfl, hB1⟩
  have hb1 := hb.below hB1
  have hB1' := hB.trans (hB1.mono hB.size)
  have c0 := hb1.cellAt 0 _ rfl
  have c1 := hb1.cellAt 1 _ rfl
  have HV : Hid (∀ W, Ch nob wq W → W.rangeAt g 0 [.int .i64 n, .int .u16 (M : Int)]) := fun W h => hb1.chAt (fun h => h) h
  clear hqe hfe hs hb hb1
  cases hr : rgt n M with
  | true =>
    rw [hr, if_pos rfl] at hf
    have hz := hz hr
    have hff := hff hr
    have Hf := hid hf
    have Hff := hid hff
    have hfs : f ≤ s := by omega
    clear hf hr hff c0 c1
    go_wp2_with (fail)
    refine wp_region_noPanic ?_
    refine wp_region_held_drew (S := Ch nob wq) (by kernel_rfl) ((Ch.refl _ _).drew) (fun hHeld => ?_)
    refine tkY 0 rfl (yieldsIf_load_mid (by rfl) 24 (.tmp 1) (by rfl) _ (0) (by rfl) _ _ (fun _ hs => HV.out _ hs) Tryz.underlying24 rfl (sizeV)) ?_
    refine tkY 2 rfl (yieldsIf_load_mid (by rfl) 24 (.tmp 1) (by rfl) _ (0) (by rfl) _ _ (fun _ hs => HV.out _ hs) Tryz.underlying24 rfl (sizeV)) ?_
    refine rdH 1 rfl (fun K hK => ?_)
    go_simp
    refine (hsz _).mono ?_
    rintro e' w5 ⟨rfl, hB5⟩
    have hC5 := hHeld.belowG hB5
    refine hK.out _ _ (hC5) (fun hHeld => ?_)
    clear hK K
    try simp only [nP]
    refine rdH 3 rfl (fun K hK => ?_)
    go_simp
    refine (hflt _).mono ?_
    rintro e' w6 ⟨rfl, hB6⟩
    have hC6 := hHeld.belowG hB6
    refine hK.out _ _ (hC6) (fun hHeld => ?_)
    clear hK K
    try simp only [nP]
    refine tkP 4 rfl ?_
    refine tkP 5 rfl ?_
    refine wpAnyH_done (by kernel_rfl) ?_ _
    refine NoPanic.normal ?_
    go_wp2
    go_ret
    exact ⟨ret_i (by have := Hff.out; rw [Hf.out, IntWalk.i64_in _ (by omega)]; omega), hB1'.trans (hHeld.below.mono hB1'.size)⟩
  | false =>
    rw [hr] at hf
    have hf : q = 0 := hf
    have Hf := hid hf
    clear hf hr hff
    go_wp2
    go_ret
    exact ⟨ret_i (by rw [Hf.out]; rfl), hB1'⟩
set_option maxHeartbeats 1000000 in
theorem som_any (n : Int) (M : Nat) (w : World) (h : M < 65536) :
    Calls Tryz.prog 35 #[vw n M] w fun e w' => e = .returned (.int .i64 (somN n M : Int)) ∧ Below w.heap.size w w' := by
  have hsz := (size_any n M · h)
  have hrt := (right_any n M · h)
  have hflt := (flt_any n M · h)
  unfold vw at hsz hrt hflt ⊢
  have hb := Blk.new' w 24 [.int .i64 n, .int .u16 (M : Int)]
  have hB : Below w.heap.size w (w.alloc (.cells #[.int .i64 n, .int .u16 (M : Int)] 24)) := (Below.refl _ _).alloc (Nat.le_refl _) _
  have hz := rgt_sz (n := n) (M := M)
  have hff : rgt n M = true → fltN n M = (szM M - 1) / 3 := fun h => by unfold fltN; rw [if_pos h]
  have hf : somN n M = if rgt n M then fltN n M + 1 else 0 := rfl
  obtain ⟨q, hqe⟩ : ∃ q, q = somN n M := ⟨_, rfl⟩
  rw [← hqe] at hf ⊢
  obtain ⟨f, hfe⟩ : ∃ f, f = fltN n M := ⟨_, rfl⟩
  rw [← hfe] at hf hff hflt
  obtain ⟨s, hs⟩ : ∃ s, s = szM M := ⟨_, rfl⟩
  try rw [← hs] at hf
  rw [← hs] at hz hsz hff
  go_enter Tryz.func35, Tryz.ntmps35
  go_wp2_with (fail)
  obtain ⟨w0, hw0⟩ : ∃ w0, w0 = w.alloc (.cells #[.int .i64 n, .int .u16 (M : Int)] 24) := ⟨_, rfl⟩
  rw [← hw0] at hb hB ⊢
  clear hw0
  obtain ⟨g, hg⟩ : ∃ g, g = w.heap.size := ⟨_, rfl⟩
  rw [← hg] at hb ⊢
  clear hg
  refine (hrt _).mono ?_
  rintro e wq ⟨rfl, hB1⟩
  have hb1 := hb.below hB1
  have hB1' := hB.trans (hB1.mono hB.size)
  have c0 := hb1.cellAt 0 _ rfl
  have c1 := hb1.cellAt 1 _ rfl
  have HV : Hid (∀ W, Ch nob wq W → W.rangeAt g 0 [.int .i64 n, .int .u16 (M : Int)]) := fun W h => hb1.chAt (fun h => h) h
  clear hqe hfe hs hb hb1
  cases hr : rgt n M with
  | true =>
    rw [hr, if_pos rfl] at hf
    have hz := hz hr
    have hff := hff hr
    have Hf := hid hf
    have Hff := hid hff
    have hfs : f ≤ s := by omega
    clear hf hr hff
    go_wp2_with (fail)
    refine (hflt _).mono ?_
    rintro e w2 ⟨rfl, hB2⟩
    go_wp2
    go_ret
    exact ⟨ret_i (by have := Hff.out; rw [Hf.out]; omega), hB1'.trans (hB2.mono hB1'.size)⟩
  | false =>
    rw [hr] at hf
    have hf : q = 0 := hf
    have Hf := hid hf
    clear hf hr hff
    go_wp2
    go_ret
    exact ⟨ret_i (by rw [Hf.out]; rfl), hB1'⟩
end Go.Proofs.YtnhhbbjkeekneaaGreatDoor
/- Cp: layer 17, pure: what votes prove. No project text. -/
namespace Go.Proofs.YtnhhbbjkeekneaaGreatDoor
open Go.RowKit Go.V
/-- a view's number and its members -/
structure Vc where
  n : Int
  m : Nat
/-- what is asked: kind, view, regency, slot, digest -/
structure Qc where
  k : Int
  v : Int
  r : Int
  s : Int
  h : List UInt8
def opOf (ks : List (List UInt8)) (V : Vc) (X : List UInt8) : Except Nat Mg := match opR ks X with
  | .ok m => if hasB V.m m.f = true then .ok m else .error 6
  | .error e => .error e
/-- whose vote a part is, if it counts -/
def cntC (ks : List (List UInt8)) (V : Vc) (q : Qc) (X : List UInt8) : Option Nat := match opOf ks V X with
  | .ok m => if m.v = V.n ∧ m.k = q.k ∧ m.v = q.v ∧ m.r = q.r ∧ m.s = q.s ∧ m.h = q.h then some m.f.toNat else none
  | .error _ => none
def isC (ks : List (List UInt8)) (V : Vc) (q : Qc) (i : Nat) (X : List UInt8) : Bool := decide (cntC ks V q X = some i)
def whoC (ks : List (List UInt8)) (V : Vc) (q : Qc) (P : List (List UInt8)) : List Nat := (List.range 16).filter (fun i => P.any (isC ks V q i))
def enC (ks : List (List UInt8)) (V : Vc) (q : Qc) (P : List (List UInt8)) : Bool := decide (quoN V.n V.m ≤ (whoC ks V q P).length)
def okC (V : Vc) (P : List (List UInt8)) : Bool := rgt V.n V.m && decide (P.length ≤ 16)
def wriC (ks : List (List UInt8)) (V : Vc) (r s : Int) (h : List UInt8) (P : List (List UInt8)) : Int := if okC V P = true ∧ enC ks V ⟨2, V.n, r, s, h⟩ P = true then 0 else 12
/-- the least regency of those that are asked -/
def leaC (ks : List (List UInt8)) (V : Vc) (s : Int) (h : List UInt8) (P : List (List UInt8)) : Option Nat := (List.range 41).find? (fun r => enC ks V ⟨3, V.n, (r : Int), s, h⟩ P)
def decC (ks : List (List UInt8)) (V : Vc) (s : Int) (h : List UInt8) (P : List (List UInt8)) : Int × Int := if okC V P = true then (match leaC ks V s h P with | some r => ((r : Int), 0) | none => (0, 12)) else (0, 12)
/-! what follows -/
/-! the regency that is told -/
theorem lea_of {ks : List (List UInt8)} {V : Vc} {s : Int} {h : List UInt8} {P : List (List UInt8)} {r : Nat} (h40 : r ≤ 40) (he : enC ks V ⟨3, V.n, (r : Int), s, h⟩ P = true) (hn : ∀ n, n < r → enC ks V ⟨3, V.n, (n : Int), s, h⟩ P = false) : leaC ks V s h P = some r := by
  unfold leaC
  rw [List.find?_range_eq_some]
  exact ⟨he, List.mem_range.2 (by omega), fun n hn' => by rw [hn n hn']; rfl⟩
end Go.Proofs.YtnhhbbjkeekneaaGreatDoor
/- Xp: layer 19, pure: who wants which regency. No project text. -/
namespace Go.Proofs.YtnhhbbjkeekneaaGreatDoor
open Go.RowKit Go.V
/-- what Take tells: W holds of each number the greatest regency wanted, and one more (0: none) -/
def tsE (ks : List (List UInt8)) (V : Vc) (W : List Nat) (X : List UInt8) : Int := match opOf ks V X with
  | .error e => (e : Int)
  | .ok m => if m.k ≠ 4 then 15 else if m.v ≠ V.n then 9 else if m.r.toNat + 1 ≤ W.getD m.f.toNat 0 then 7 else 0
/-- who wants what behind a Take -/
def tsW (ks : List (List UInt8)) (V : Vc) (W : List Nat) (X : List UInt8) : List Nat := match opOf ks V X with
  | .error _ => W
  | .ok m => if m.k ≠ 4 then W else if m.v ≠ V.n then W else if m.r.toNat + 1 ≤ W.getD m.f.toNat 0 then W else W.set m.f.toNat (m.r.toNat + 1)
/-- how many want a regency -/
def cntW (W : List Nat) (r : Int) : Nat := (W.filter (fun (x : Nat) => decide (0 < x ∧ r ≤ (x : Int) - 1))).length
def isW (W : List Nat) (above : Int) (many : Nat) (r : Nat) : Bool := decide (above < (r : Int) ∧ 0 < many ∧ many ≤ cntW W (r : Int))
/-- the greatest regency, below n, above one that so many want; -1: there is none -/
def gW (W : List Nat) (above : Int) (many : Nat) : Nat → Int
  | 0 => -1
  | n + 1 => if isW W above many n = true then (n : Int) else gW W above many n
def grW (W : List Nat) (above : Int) (many : Nat) : Int := gW W above many 41
def w0W : List Nat := List.replicate 16 0
theorem g_none {W : List Nat} {above : Int} : ∀ n, gW W above 0 n = -1
  | 0 => rfl
  | n + 1 => by
    unfold gW
    rw [if_neg (by unfold isW; simp)]
    exact g_none n
end Go.Proofs.YtnhhbbjkeekneaaGreatDoor
/- Cq: layer 17, pure: the message that bytes tell, by its head. No project text. -/
namespace Go.Proofs.YtnhhbbjkeekneaaGreatDoor
open Go.RowKit Go.V
def fldG (X : List UInt8) : List Nat → Nat → List Nat
  | [], _ => []
  | n :: ns, k => fixN ((X.drop k).take n) :: fldG X ns (k + n)
theorem fld_all (X : List UInt8) : ∀ (ns : List Nat) (k : Nat), (∀ n ∈ ns, okN (n : Int)) → k + ns.sum ≤ X.length → fldR ns k X = .ok (fldG X ns k)
  | [], _, _, _ => rfl
  | n :: ns, k, h, hl => by
    rw [List.sum_cons] at hl
    have ih := fld_all X ns (k + n) (fun m hm => h m (by simp [hm])) (by omega)
    have h1 : fixRd (n : Int) (X.drop k) = .ok (fixN ((X.drop k).take n)) := by
      unfold fixRd
      rw [if_pos (h n (by simp)), Int.toNat_natCast, if_neg (by rw [List.length_drop]; omega)]
    simp only [fldR, h1, ih, fldG]
theorem fld_short (X : List UInt8) : ∀ (ns : List Nat) (k : Nat), (∀ n ∈ ns, okN (n : Int)) → k ≤ X.length → X.length < k + ns.sum → fldR ns k X = .error 1
  | [], k, _, h1, h2 => by simp at h2; omega
  | n :: ns, k, h, h1, h2 => by
    rw [List.sum_cons] at h2
    by_cases hs : X.length < k + n
    · have h3 : fixRd (n : Int) (X.drop k) = .error 1 := by
        unfold fixRd
        rw [if_pos (h n (by simp)), Int.toNat_natCast, if_pos (by rw [List.length_drop]; omega)]
      simp only [fldR, h3]
    · have ih := fld_short X ns (k + n) (fun m hm => h m (by simp [hm])) (by omega) (by omega)
      have h3 : fixRd (n : Int) (X.drop k) = .ok (fixN ((X.drop k).take n)) := by
        unfold fixRd
        rw [if_pos (h n (by simp)), Int.toNat_natCast, if_neg (by rw [List.length_drop]; omega)]
      simp only [fldR, h3, ih]
theorem szs_ok : ∀ n ∈ szs8, okN ((n : Nat) : Int) := by
  intro n hn
  unfold szs8 at hn
  simp only [List.mem_append, List.mem_cons, List.not_mem_nil, or_false, List.mem_replicate] at hn
  unfold okN
  omega
theorem fix_one (c : UInt8) : fixN [c] = c.toNat := by simp [fixN]
theorem fldG_ones (X : List UInt8) : ∀ (n k : Nat), k + n ≤ X.length → (fldG X (List.replicate n 1) k).map UInt8.ofNat = (X.drop k).take n
  | 0, _, _ => rfl
  | n + 1, k, h => by
    have ih := fldG_ones X n (k + 1) (by omega)
    have hd : X.drop k = X[k] :: X.drop (k + 1) := List.drop_eq_getElem_cons (by omega)
    rw [List.replicate_succ]
    simp only [fldG, List.map_cons, ih]
    rw [hd, List.take_succ_cons, List.take_succ_cons, List.take_zero, fix_one]
    congr 1
    exact UInt8.ofNat_toNat
theorem fldG_app (X : List UInt8) : ∀ (a b : List Nat) (k : Nat), fldG X (a ++ b) k = fldG X a k ++ fldG X b (k + a.sum)
  | [], b, k => by simp [fldG]
  | n :: a, b, k => by
    simp only [List.cons_append, fldG, fldG_app X a b (k + n), List.sum_cons, Nat.add_assoc]
/-- a message's head, out of bytes -/
def mkH (X : List UInt8) (b : List UInt8) (ps : List (List UInt8)) : Mg :=
  ⟨((X.getD 0 0).toNat : Int), ((X.getD 1 0).toNat : Int), (fixN ((X.drop 2).take 2) : Int), (fixN ((X.drop 4).take 2) : Int), (fixN ((X.drop 6).take 2) : Int), (X.drop 8).take 32, b, ps⟩
theorem mk_h {X : List UInt8} (h : 40 ≤ X.length) (b : List UInt8) (ps : List (List UInt8)) : mkM (fldG X szs8 0) b ps = mkH X b ps := by
  have e : fldG X szs8 0 = [fixN (X.take 1), fixN ((X.drop 1).take 1), fixN ((X.drop 2).take 2), fixN ((X.drop 4).take 2), fixN ((X.drop 6).take 2)] ++ fldG X (List.replicate 32 1) 8 := by
    unfold szs8
    rw [fldG_app]
    rfl
  have h0 : X.take 1 = [X.getD 0 0] := by
    match X, h with
    | a :: _, _ => rfl
  have h1 : (X.drop 1).take 1 = [X.getD 1 0] := by
    match X, h with
    | a :: c :: _, _ => rfl
  rw [e, h0, h1, fix_one, fix_one]
  unfold mkM mkH
  have h8 : (([(X.getD 0 0).toNat, (X.getD 1 0).toNat, fixN ((X.drop 2).take 2), fixN ((X.drop 4).take 2), fixN ((X.drop 6).take 2)] ++ fldG X (List.replicate 32 1) 8).drop 5).map UInt8.ofNat = (X.drop 8).take 32 := fldG_ones X 32 8 (by omega)
  rw [h8]
  rfl
theorem rd_short {X : List UInt8} (h : X.length < 40) : rdM X = .error 1 := by
  have := fld_short X szs8 0 szs_ok (Nat.zero_le _) (by rw [sum_szs8]; omega)
  unfold rdM
  rw [this]
theorem rd_head {X : List UInt8} (h : 40 ≤ X.length) : rdM X = match textR 65536 (X.drop 40) with
    | .error e => .error e
    | .ok (n, z) => match cntR 16 (readPk (X.drop (40 + (z + n)))) with
      | .error e => .error e
      | .ok (c, y) => match prtR c (40 + (z + n) + y) X with
        | .error e => .error e
        | .ok (ts, k) => if k < X.length then .error 2 else if numB (mkH X (((X.drop 40).drop z).take n) ts) = true then .ok (mkH X (((X.drop 40).drop z).take n) ts) else .error 15 := by
  have := fld_all X szs8 0 szs_ok (by rw [sum_szs8]; omega)
  unfold rdM
  rw [this]
  simp only [mk_h h]
  cases textR 65536 (X.drop 40) with
  | error e => rfl
  | ok r =>
    obtain ⟨n, z⟩ := r
    dsimp only
    cases cntR 16 (readPk (X.drop (40 + (z + n)))) with
    | error e => rfl
    | ok r =>
      obtain ⟨c, y⟩ := r
      dsimp only
      cases prtR c (40 + (z + n) + y) X with
      | error e => rfl
      | ok r => rfl
end Go.Proofs.YtnhhbbjkeekneaaGreatDoor
