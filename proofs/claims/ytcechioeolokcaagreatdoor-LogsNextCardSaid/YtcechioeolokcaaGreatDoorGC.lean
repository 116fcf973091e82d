/- GC: several texts in one (H6 H7 H8 H9 HA HO GC). -/
import Derived.Test.YtcechioeolokcaaGreatDoorH5
import Derived.Test.YtcechioeolokcaaGreatDoorG1
import Derived.Test.YtcechioeolokcaaGreatDoorE1
import Derived.Test.YtcechioeolokcaaGreatDoorDI
import Derived.Test.YtcechioeolokcaaGreatDoorSA
/- H6: layer 11: what syncs and deletes; a log's state. -/
namespace Go.Proofs.YtcechioeolokcaaGreatDoor
open Go.RowKit Go.V
/-- the disk has done something -/
theorem LS.disk {w w' : World} {x : Nat} {dv : Value} {pre num : ByteArray} {sz nx : Nat} {Md F M' F' : Nat → Prop} {D D' : Dk} (h : LS w x dv pre num sz nx Md F D) (hI : IX w' dv M' F' D') (hC : Ch Md w w') (hM : ∀ b, M' b → Md b ∨ w.heap.size ≤ b) (hF : ∀ b, F' b → F b ∨ Md b ∨ w.heap.size ≤ b) (hcl : (0 : Nat) < w.heap.size) : LS w' x dv pre num sz nx M' F' D' :=
  ⟨h.b.ch hC h.mx, hI, fun e => by rcases hM x e with e | e; exact h.mx e; have := h.b.lt; omega, fun e => by rcases hF x e with e | e | e; exact h.fx e; exact h.mx e; have := h.b.lt; omega, fun e => by rcases hM _ e with e | e; exact h.cm e; omega, h.xk⟩
theorem LS.diskp {w w' : World} {x : Nat} {dv : Value} {pre num : ByteArray} {sz nx : Nat} {Md F : Nat → Prop} {D D' : Dk} (h : LS w x dv pre num sz nx Md F D) (hP : IXp w Md F dv D' w') (hcl : (0 : Nat) < w.heap.size) : LSp w w' x dv pre num sz nx Md F D' := by
  obtain ⟨M', F', hI, hC, hM, hF⟩ := hP
  exact ⟨M', F', h.disk hI hC hM hF hcl, hC.weaken (fun _ _ e => .inl e), hM, hF⟩
theorem LSp.cell {w w' : World} {x : Nat} {dv : Value} {pre num : ByteArray} {sz nx : Nat} {Md F : Nat → Prop} {D : Dk} (h : LSp w w' x dv pre num sz nx Md F D) : w'.cell? ⟨x, 0, none⟩ = some dv := by obtain ⟨_, _, h, _⟩ := h; exact h.b.cellAt 0 _ rfl
set_option maxRecDepth 100000 in
set_option maxHeartbeats 2000000 in
theorem synced_e (x : Nat) (dv : Value) (pre num : ByteArray) (sz nx : Nat) (Md F : Nat → Prop) (D D2 : Dk) (w : World) (hL : LS w x dv pre num sz nx Md F D) (hs : DkSm D) (hD2 : D2 = (doF D acS).1) (hcm : D2.down = false) (hcl : (0 : Nat) < w.heap.size) :
    Calls Tryz.prog 23 #[.pointer (some ⟨x, 0, none⟩), .int .i64 0] w fun e w' => e = .returned (.int .i64 0) ∧ LSp w w' x dv pre num sz nx Md F D2 := by
  obtain ⟨xd, rfl⟩ := hL.i.ptr
  have c0 := hL.b.cellAt 0 _ rfl
  go_enter Tryz.func23, Tryz.ntmps23
  go_wp2_with (fail)
  refine (sync10_any _ Md F D acS _ hL.i hs rfl).mono ?_
  rw [← hD2]
  clear hD2
  rintro e w1 ⟨rfl, hP⟩
  have hP1 := hL.diskp hP hcl
  obtain ⟨M1, F1, hL1, hC1, hM1, hF1⟩ := hP1
  have c10 := hL1.b.cellAt 0 _ rfl
  go_wp2_with (fail)
  refine (down10_any _ M1 F1 D2 _ hL1.i).mono ?_
  rw [hcm]
  rintro e w2 ⟨rfl, hB2⟩
  go_wp2
  go_ret
  exact ⟨rfl, LSp.trans hC1 hM1 hF1 (LSp.refl hL1 hB2)⟩
set_option maxRecDepth 100000 in
set_option maxHeartbeats 2000000 in
theorem synced_bad (x : Nat) (E : Int) (hE : E ≠ 0) (w : World) :
    Calls Tryz.prog 23 #[.pointer (some ⟨x, 0, none⟩), .int .i64 E] w fun e w' => e = .returned (.int .i64 E) ∧ w' = w := by
  go_enter Tryz.func23, Tryz.ntmps23
  go_wp2
  go_ret
  exact ⟨rfl, rfl⟩
set_option maxRecDepth 100000 in
set_option maxHeartbeats 2000000 in
theorem sync_l (x : Nat) (dv : Value) (pre num : ByteArray) (sz nx : Nat) (Md F : Nat → Prop) (D : Dk) (w : World) (hL : LS w x dv pre num sz nx Md F D) (hs : DkSm D) (hcl : (0 : Nat) < w.heap.size) :
    Calls Tryz.prog 13 #[.pointer (some ⟨x, 0, none⟩)] w fun e w' => e = .returned (.tuple #[]) ∧ LSp w w' x dv pre num sz nx Md F (doF D acS).1 := by
  obtain ⟨xd, rfl⟩ := hL.i.ptr
  have c0 := hL.b.cellAt 0 _ rfl
  go_enter Tryz.func13, Tryz.ntmps13
  go_wp2_with (fail)
  refine (sync10_any _ Md F D acS _ hL.i hs rfl).mono ?_
  rintro e w1 ⟨rfl, hP⟩
  have hP1 := hL.diskp hP hcl
  go_wp2
  go_end0
  exact ⟨rfl, hP1⟩
set_option maxRecDepth 100000 in
set_option maxHeartbeats 4000000 in
theorem remove_e (x : Nat) (dv : Value) (pre num n' : ByteArray) (sz nx : Nat) (Md F : Nat → Prop) (D D1 D2 : Dk) (w : World) (hL : LS w x dv pre num sz nx Md F D) (hs : DkSm D) (hp : pre.size ≤ 8) (hn' : n'.size ≤ 900) (hE : (doF D (acX (dotF pre ++ n'))).2 = 0) (hD' : D1 = (doF D (acX (dotF pre ++ n'))).1) (hs1 : DkSm D1) (hD2 : D2 = (doF D1 acS).1) (hcm : D2.down = false) (hcl : (0 : Nat) < w.heap.size) :
    Calls Tryz.prog 25 #[.pointer (some ⟨x, 0, none⟩), .string n'] w fun e w' => e = .returned (.int .i64 0) ∧ LSp w w' x dv pre num sz nx Md F D2 := by
  obtain ⟨xd, rfl⟩ := hL.i.ptr
  have HX0 : Hid (∀ W, (Ch (fun y => Md y ∨ y = x) w W ∧ W.cell? ⟨x, 0, none⟩ = some (.pointer (some ⟨xd, 0, none⟩))) → W.cell? ⟨x, 0, none⟩ = some (.pointer (some ⟨xd, 0, none⟩))) := hid fun W h => h.2
  have HL := hid hL.drew
  have hds : (dotF pre).size ≤ 9 := by unfold dotF; rw [ba_size]; show pre.size + 1 ≤ 9; omega
  have hac : AcSm (acX (dotF pre ++ n')) := acDl_sm (by rw [ba_size]; omega)
  have hn'' : n'.size ≤ 1000 := by omega
  clear hn'
  have hn' := hn''
  have hxl := hL.b.lt
  go_enter Tryz.func25, Tryz.ntmps25
  go_upto_region 1 with (fail)
  -- REM
  refine wp_region_noPanic ?_
  refine wp_region_held_drew (S := fun W => Ch (fun y => Md y ∨ y = x) w W ∧ W.cell? ⟨x, 0, none⟩ = some (.pointer (some ⟨xd, 0, none⟩))) (by kernel_rfl) (⟨(Ch.refl _ _).drew, HL.out.b.cellAt 0 _ rfl⟩) (fun hHeld => ?_)
  refine wpAnyH_take (i := 0) (oi := ⟨some 5, _, _, _, _, none⟩) (v := ?_) rfl (by kernel_rfl) (by kernel_rfl) (by kernel_rfl) (fun _ _ _ h => h) (Or.inl ⟨by rfl, ?_⟩) (by assumption) ?_
  rotate_left
  · intro w hSw; go_simp; try with_reducible rfl
  try simp only [Act.put, List.setIfInBounds_toArray, List.set_cons_zero, List.set_cons_succ]
  refine wpAnyH_take (i := 1) (oi := ⟨some 6, _, _, _, _, none⟩) (v := ?_) rfl (by kernel_rfl) (by kernel_rfl) (by kernel_rfl) (fun _ _ _ h => h) (Or.inl ⟨by rfl, ?_⟩) (by assumption) ?_
  rotate_left
  · intro w hSw; go_simp; try with_reducible rfl
  try simp only [Act.put, List.setIfInBounds_toArray, List.set_cons_zero, List.set_cons_succ]
  refine wpAnyH_take (i := 2) (oi := ⟨some 7, _, _, _, _, none⟩) (v := ?_) rfl (by kernel_rfl) (by kernel_rfl) (by kernel_rfl) (fun _ _ _ h => h) (Or.inl ⟨by rfl, ?_⟩) (by assumption) ?_
  rotate_left
  · intro w hSw; go_simp; try with_reducible rfl
  try simp only [Act.put, List.setIfInBounds_toArray, List.set_cons_zero, List.set_cons_succ]
  refine wpAnyH_take (i := 3) (oi := ⟨some 8, _, _, _, _, none⟩) (v := ?_) rfl (by kernel_rfl) (by kernel_rfl) (by kernel_rfl) (fun _ _ _ h => h) (Or.inl ⟨by rfl, ?_⟩) (by assumption) ?_
  rotate_left
  · intro w hSw; go_simp; try with_reducible rfl
  try simp only [Act.put, List.setIfInBounds_toArray, List.set_cons_zero, List.set_cons_succ]
  refine wpAnyH_take (i := 4) (oi := ⟨some 9, _, _, _, _, none⟩) (v := ?_) rfl (by kernel_rfl) (by kernel_rfl) (by kernel_rfl) (fun _ _ _ h => h) (Or.inl ⟨by rfl, ?_⟩) (by assumption) ?_
  rotate_left
  · intro w hSw; have hcw := HX0.out w hSw; go_simp; try with_reducible rfl
  try simp only [Act.put, List.setIfInBounds_toArray, List.set_cons_zero, List.set_cons_succ]
  refine wpAnyH_take (i := 5) (oi := ⟨some 10, _, _, _, _, none⟩) (v := ?_) rfl (by kernel_rfl) (by kernel_rfl) (by kernel_rfl) (fun _ _ _ h => h) (Or.inl ⟨by rfl, ?_⟩) (by assumption) ?_
  rotate_left
  · intro w hSw; go_simp; try with_reducible rfl
  try simp only [Act.put, List.setIfInBounds_toArray, List.set_cons_zero, List.set_cons_succ]
  refine wpAnyH_take (i := 6) (oi := ⟨some 11, _, _, _, _, none⟩) (v := ?_) rfl (by kernel_rfl) (by kernel_rfl) (by kernel_rfl) (fun _ _ _ h => h) (Or.inl ⟨by rfl, ?_⟩) (by assumption) ?_
  rotate_left
  · intro w hSw; go_simp; try with_reducible rfl
  try simp only [Act.put, List.setIfInBounds_toArray, List.set_cons_zero, List.set_cons_succ]
  refine wpAnyH_ready (rs := [7]) (by kernel_rfl) (by simp) ?_
  refine AllReadyH.cons (o := ⟨some 12, _, _, _, _, none⟩) rfl (fun K hK => ?_) AllReadyH.nil
  go_simp
  refine (file_e x _ pre num n' sz nx _ HL.out.b hp hn').mono ?_
  rintro e w5 ⟨rfl, rfl⟩
  refine hK.out _ _ (hHeld) (fun hHeld => ?_)
  clear hK K
  try simp only [Act.put, List.setIfInBounds_toArray, List.set_cons_zero, List.set_cons_succ]
  refine wpAnyH_ready (rs := [8]) (by kernel_rfl) (by simp) ?_
  refine AllReadyH.cons (o := ⟨some 13, _, _, _, _, none⟩) rfl (fun K hK => ?_) AllReadyH.nil
  go_simp
  refine (delete10_any _ Md F D (acX (dotF pre ++ n')) _ HL.out.i hs hac rfl).mono ?_
  rw [hE, ← hD']
  clear hE hD'
  rintro e w6 ⟨rfl, M6, F6, hI6, hC6, hM6, hF6⟩
  have hL6 := HL.out.disk hI6 hC6 hM6 hF6 hcl
  refine hK.out _ _ (⟨hHeld.1.trans (hC6.weaken (fun _ _ e => .inl e)), hL6.b.cellAt 0 _ rfl⟩) (fun hHeld => ?_)
  clear hK K
  try simp only [Act.put, List.setIfInBounds_toArray, List.set_cons_zero, List.set_cons_succ]
  refine wpAnyH_ready (rs := [9]) (by kernel_rfl) (by simp) ?_
  refine AllReadyH.cons (o := ⟨some 14, _, _, _, _, none⟩) rfl (fun K hK => ?_) AllReadyH.nil
  go_simp
  refine (synced_e x _ pre num sz nx M6 F6 D1 D2 _ hL6 hs1 hD2 hcm (Nat.lt_of_lt_of_le hcl hC6.size)).mono ?_
  rintro e w7 ⟨rfl, hP7⟩
  have hC7 := hP7.ch
  refine hK.out _ _ (⟨hHeld.1.transN hC7 (by rintro y (e | e); exact (hM6 y e).imp .inl (fun e => e); exact .inl (.inr e)), hP7.cell⟩) (fun hHeld => ?_)
  clear hK K
  try simp only [Act.put, List.setIfInBounds_toArray, List.set_cons_zero, List.set_cons_succ]
  refine wpAnyH_take (i := 10) (oi := ⟨some 4, _, _, _, _, none⟩) (v := ?_) rfl (by kernel_rfl) (by kernel_rfl) (by kernel_rfl) (fun _ _ _ h => h) (Or.inl ⟨by rfl, ?_⟩) (by assumption) ?_
  rotate_left
  · intro w hSw; go_simp; try with_reducible rfl
  try simp only [Act.put, List.setIfInBounds_toArray, List.set_cons_zero, List.set_cons_succ]
  refine wpAnyH_done (by kernel_rfl) ?_ _
  refine NoPanic.normal ?_
  -- REM end
  have hP := LSp.trans (w := w) (M1 := M6) (F1 := F6) ((((Ch.refl _ _).drew : Ch (fun y => Md y ∨ y = x) w w.drew)).trans (hC6.weaken (fun _ _ e => .inl e))) hM6 hF6 hP7
  clear HX0 HL hHeld hP7 hC7 hL6 hI6 hC6
  go_wp2
  go_ret
  exact ⟨rfl, hP⟩
end Go.Proofs.YtcechioeolokcaaGreatDoor
/- H7: layer 11: a log's state: its segments; a record is put. -/
namespace Go.V
open Go.RowKit
theorem fl_new {pre : ByteArray} {lo f m : Nat} {sg : List (List (List UInt8))} {s0 : List (List UInt8)} {b : List UInt8} (hm : lo + sg.length = m + 1) (hb : b = recsF (f + sg.flatten.length) s0) :
    (fun n => if n = nameF pre (m + 1) then some ((fileF pre lo f sg (nameF pre (m + 1))).getD [] ++ b) else fileF pre lo f sg n) = fileF pre lo f (sg ++ [s0]) := by
  funext n
  rw [file_snoc, hm, file_none sg lo f (m + 1) (by omega), hb]
  rfl
theorem fl_app {pre : ByteArray} {lo f m nx : Nat} {a : List (List (List UInt8))} {s : List (List UInt8)} {t : List UInt8} (hm : lo + a.length = m) (hn : f + (a ++ [s]).flatten.length = nx) :
    (fun n => if n = nameF pre m then some ((fileF pre lo f (a ++ [s]) (nameF pre m)).getD [] ++ recF nx t) else fileF pre lo f (a ++ [s]) n) = fileF pre lo f (a ++ [s ++ [t]]) := by
  funext n
  rw [file_snoc a lo f (s ++ [t]) n, file_snoc a lo f s (nameF pre m), file_snoc a lo f s n, hm, if_pos rfl]
  by_cases h : n = nameF pre m
  · rw [if_pos h, if_pos h, recs_snoc]
    show some (_ ++ _) = _
    rw [show f + a.flatten.length + s.length = nx from by rw [← hn]; simp; omega]
    rfl
  · rw [if_neg h, if_neg h, if_neg h]
theorem flat_snoc (a : List (List (List UInt8))) (s : List (List UInt8)) : (a ++ [s]).flatten.length = a.flatten.length + s.length := by simp
def Grow (sg : List (List (List UInt8))) (t : List UInt8) (sg' : List (List (List UInt8))) : Prop := sg' = sg ++ [[t]] ∨ ∃ a s, sg = a ++ [s] ∧ sg' = a ++ [s ++ [t]]
theorem Grow.flat {sg sg' : List (List (List UInt8))} {t : List UInt8} (h : Grow sg t sg') : sg'.flatten = sg.flatten ++ [t] := by
  rcases h with rfl | ⟨a, s, rfl, rfl⟩ <;> simp
theorem Grow.behind {old b sg' : List (List (List UInt8))} {t : List UInt8} (h : Grow (old ++ b) t sg') (hb : b ≠ []) : ∃ b', sg' = old ++ b' ∧ b' ≠ [] ∧ b'.flatten = b.flatten ++ [t] := by
  rcases h with rfl | ⟨a, s, h1, rfl⟩
  · exact ⟨b ++ [[t]], by simp, by simp, by simp⟩
  · obtain ⟨b0, bl, rfl⟩ : ∃ b0 bl, b = b0 ++ [bl] := ⟨b.dropLast, b.getLast hb, (List.dropLast_concat_getLast hb).symm⟩
    rw [← List.append_assoc] at h1
    obtain ⟨e1, e2⟩ := List.append_inj' h1 rfl
    injection e2 with e2
    subst e1 e2
    exact ⟨b0 ++ [bl ++ [t]], by simp, by simp, by simp⟩
end Go.V
namespace Go.Proofs.YtcechioeolokcaaGreatDoor
open Go.RowKit Go.V
/-- a log's state: its segments sg, of numbers lo .. m, its records' numbers f .. nx - 1 -/
structure LT (w : World) (x : Nat) (dv : Value) (pre : ByteArray) (Md F : Nat → Prop) (D : Dk) (c : Nat) (sg : List (List (List UInt8))) (lo f m nx : Nat) : Prop where
  s : LS w x dv pre ⟨(digs m).toArray⟩ (lastZ f sg) nx Md F D
  d : PD D c (fileF pre lo f sg)
  lm : lo + sg.length = m + 1
  l1 : 1 ≤ lo
  f1 : 1 ≤ f
  n : f + sg.flatten.length = nx
  mc : m ≤ c
  pz : pre.size ≤ 8
  m0 : sg = [] → m = 0
theorem LT.size {w : World} {x : Nat} {dv : Value} {pre : ByteArray} {Md F : Nat → Prop} {D : Dk} {c : Nat} {sg : List (List (List UInt8))} {lo f m nx : Nat} (h : LT w x dv pre Md F D c sg lo f m nx) : lastZ f sg ≤ 1000000 := by
  cases hsg : sg with
  | nil => exact Nat.zero_le _
  | cons s r =>
    obtain ⟨a, sl, e⟩ : ∃ a sl, s :: r = a ++ [sl] := ⟨(s :: r).dropLast, (s :: r).getLast (by simp), (List.dropLast_concat_getLast (by simp)).symm⟩
    rw [e, lastZ_snoc]
    have h1 := h.d.fs (nameF pre (lo + a.length))
    rw [hsg, e, file_snoc, if_pos rfl] at h1
    have h2 := find_tot (nowF D) (nameF pre (lo + a.length))
    rw [h1] at h2
    have h3 := h.d.t
    have h4 := h.d.r.2
    have h2' : (recsF (f + a.flatten.length) sl).length ≤ tot (nowF D) := h2
    omega
theorem LT.keep {w w' : World} {x : Nat} {dv : Value} {pre : ByteArray} {Md F : Nat → Prop} {D : Dk} {c : Nat} {sg : List (List (List UInt8))} {lo f m nx : Nat} (h : LT w x dv pre Md F D c sg lo f m nx) (hk : ∀ b, b < w.heap.size → b = x ∨ Md b ∨ F b → w'.heap[b]? = w.heap[b]?) (hs : w.heap.size ≤ w'.heap.size) : LT w' x dv pre Md F D c sg lo f m nx :=
  ⟨h.s.keep hk hs, h.d, h.lm, h.l1, h.f1, h.n, h.mc, h.pz, h.m0⟩
/-- what a call leaves of the blocks that it may write and reads -/
def Fr (w w' : World) (x : Nat) (Md F Md' F' : Nat → Prop) : Prop := Ch (fun b => Md b ∨ b = x) w w' ∧ (∀ b, Md' b → Md b ∨ w.heap.size ≤ b) ∧ (∀ b, F' b → F b ∨ Md b ∨ w.heap.size ≤ b)
theorem Fr.refl {w w' : World} {x : Nat} {Md F : Nat → Prop} (hB : Below w.heap.size w w') : Fr w w' x Md F Md F := ⟨(Ch.of_below hB).weaken (fun _ _ e => e.elim), fun _ e => .inl e, fun _ e => .inl e⟩
theorem Fr.trans {w w1 w2 : World} {x : Nat} {Md F M1 F1 M2 F2 : Nat → Prop} (h : Fr w w1 x Md F M1 F1) (k : Fr w1 w2 x M1 F1 M2 F2) : Fr w w2 x Md F M2 F2 := by
  obtain ⟨hC, hM, hF⟩ := h
  obtain ⟨hC2, hM2, hF2⟩ := k
  have hs := hC.size
  refine ⟨hC.transN hC2 ?_, fun b e => ?_, fun b e => ?_⟩
  · rintro y (e | e)
    · exact (hM y e).imp .inl id
    · exact .inl (.inr e)
  · rcases hM2 b e with e | e
    · exact hM b e
    · exact .inr (by omega)
  · rcases hF2 b e with e | e | e
    · exact hF b e
    · exact (hM b e).elim (fun e => .inr (.inl e)) (fun e => .inr (.inr e))
    · exact .inr (.inr (by omega))
theorem rec_len {nx : Nat} {t : List UInt8} (ht : t.length ≤ 1000) : (recF nx t).length ≤ 2000 := by
  have := psz_bd nx
  have := psz_bd t.length
  rw [len_rec]
  omega
theorem append_t2 (x m : Nat) (dv : Value) (pre : ByteArray) (Md F G : Nat → Prop) (D : Dk) (c : Nat) (sg : List (List (List UInt8))) (lo f nx : Nat) (t : List UInt8) (vt : Value) (w : World) (hK : KS w) (h : LT w x dv pre Md F D c sg lo f m nx) (hc : c ≤ 100000) (hnx : nx ≤ 1000000) (ht : t.length ≤ 1000) (hvt : Rd w G vt (bys t)) (hG : ∀ y, G y → y < w.heap.size) :
    Calls Tryz.prog 10 #[.pointer (some ⟨x, 0, none⟩), vt] w fun e w' => ∃ (E : Int) (M' F' : Nat → Prop) (D' : Dk) (sg' : List (List (List UInt8))) (m' : Nat), e = .returned (.int .i64 E) ∧ Fr w w' x Md F M' F' ∧ ((E = 0 ∧ LT w' x dv pre M' F' D' (c + 1) sg' lo f m' (nx + 1) ∧ Grow sg t sg') ∨ (E = 4 ∧ LT w' x dv pre M' F' D c sg lo f m nx ∧ D.room < ((recF nx t).length : Int) + tot (nowF D))) := by
  have hz := h.size
  have hmc := h.mc
  have hsm := h.d.sm (by omega)
  refine (append11_e x m dv pre (lastZ f sg) nx Md F G D _ _ t vt w hK h.s hsm h.pz (by omega) (by omega) (by omega) (by omega) hvt hG rfl rfl).mono ?_
  rintro e w1 ⟨rfl, num1, sz1, nx1, h0, h4, M', F', hL, hC, hM, hF⟩
  have hok : namF (nameF pre (nxN m (lastZ f sg))) = true := name_ok h.pz (by unfold nxN; split <;> omega)
  rcases h.d.put (acP (nameF pre (nxN m (lastZ f sg))) (recF nx t)) rfl hok (rec_len ht) with ⟨hd, hrm⟩ | ⟨hE, hP⟩
  · rw [hd] at h4 hL ⊢
    obtain ⟨rfl, rfl, rfl⟩ := h4 (by show (4 : Int) ≠ 0; decide)
    exact ⟨4, M', F', D, sg, m, rfl, ⟨hC, hM, hF⟩, .inr ⟨rfl, ⟨hL, h.d, h.lm, h.l1, h.f1, h.n, h.mc, h.pz, h.m0⟩, hrm⟩⟩
  · obtain ⟨rfl, rfl, rfl⟩ := h0 hE
    rw [hE]
    have hlm := h.lm
    have hn := h.n
    have hl1 := h.l1
    unfold nxN nxS at *
    by_cases hmf : m = 0 ∨ 2048 ≤ lastZ f sg
    · rw [if_pos hmf] at hL hP
      rw [if_pos hmf] at hL
      have hrc : recF nx t = recsF (f + sg.flatten.length) [t] := by rw [hn]; simp [recsF]
      rw [show (fun n => if n = (acP (nameF pre (m + 1)) (recF nx t)).n then some ((fileF pre lo f sg (acP (nameF pre (m + 1)) (recF nx t)).n).getD [] ++ (acP (nameF pre (m + 1)) (recF nx t)).b) else fileF pre lo f sg n) = fileF pre lo f (sg ++ [[t]]) from fl_new hlm hrc] at hP
      refine ⟨0, M', F', _, sg ++ [[t]], m + 1, rfl, ⟨hC, hM, hF⟩, .inl ⟨rfl, ⟨?_, hP, by simp; omega, hl1, h.f1, by rw [flat_snoc]; simp only [List.length_singleton]; omega, by omega, h.pz, fun e => by simp at e⟩, .inl rfl⟩⟩
      have e : lastZ f (sg ++ [[t]]) = 0 + (recF nx t).length := by rw [lastZ_snoc, hn]; simp [recsF]
      rw [e]
      exact hL
    · rw [if_neg hmf] at hL hP
      rw [if_neg hmf] at hL
      have hne : sg ≠ [] := fun e => hmf (.inl (h.m0 e))
      obtain ⟨a, s, hsg⟩ : ∃ a s, sg = a ++ [s] := ⟨sg.dropLast, sg.getLast hne, (List.dropLast_concat_getLast hne).symm⟩
      have hla : lo + a.length = m := by rw [hsg] at hlm; simp at hlm; omega
      have hn' : f + (a ++ [s]).flatten.length = nx := by rw [← hsg]; exact hn
      rw [show (fun n => if n = (acP (nameF pre m) (recF nx t)).n then some ((fileF pre lo f sg (acP (nameF pre m) (recF nx t)).n).getD [] ++ (acP (nameF pre m) (recF nx t)).b) else fileF pre lo f sg n) = fileF pre lo f (a ++ [s ++ [t]]) from by rw [hsg]; exact fl_app hla hn'] at hP
      refine ⟨0, M', F', _, a ++ [s ++ [t]], m, rfl, ⟨hC, hM, hF⟩, .inl ⟨rfl, ⟨?_, hP, by simp; omega, hl1, h.f1, by rw [flat_snoc] at hn' ⊢; rw [List.length_append, List.length_singleton]; omega, by omega, h.pz, fun e => by simp at e⟩, .inr ⟨a, s, hsg, rfl⟩⟩⟩
      have e : lastZ f (a ++ [s ++ [t]]) = lastZ f sg + (recF nx t).length := by
        rw [hsg, lastZ_snoc, lastZ_snoc, recs_snoc, List.length_append, show f + a.flatten.length + s.length = nx from by rw [flat_snoc] at hn'; omega]
      rw [e]
      exact hL
theorem append_t (x m : Nat) (dv : Value) (pre : ByteArray) (Md F G : Nat → Prop) (D : Dk) (c : Nat) (sg : List (List (List UInt8))) (lo f nx : Nat) (t : List UInt8) (vt : Value) (w : World) (hK : KS w) (h : LT w x dv pre Md F D c sg lo f m nx) (hc : c ≤ 100000) (hnx : nx ≤ 1000000) (ht : t.length ≤ 1000) (hvt : Rd w G vt (bys t)) (hG : ∀ y, G y → y < w.heap.size) :
    Calls Tryz.prog 10 #[.pointer (some ⟨x, 0, none⟩), vt] w fun e w' => ∃ (E : Int) (M' F' : Nat → Prop) (D' : Dk) (sg' : List (List (List UInt8))) (m' : Nat), e = .returned (.int .i64 E) ∧ Fr w w' x Md F M' F' ∧ ((E = 0 ∧ LT w' x dv pre M' F' D' (c + 1) sg' lo f m' (nx + 1) ∧ Grow sg t sg') ∨ (E = 4 ∧ LT w' x dv pre M' F' D c sg lo f m nx)) := by
  refine (append_t2 x m dv pre Md F G D c sg lo f nx t vt w hK h hc hnx ht hvt hG).mono ?_
  rintro e w1 ⟨E, M', F', D', sg', m', rfl, hFr, hE⟩
  exact ⟨E, M', F', D', sg', m', rfl, hFr, hE.imp id fun h => ⟨h.1, h.2.1⟩⟩
end Go.Proofs.YtcechioeolokcaaGreatDoor
/- H8: layer 11: a cut: a new segment, and the older ones deleted. -/
namespace Go.Proofs.YtcechioeolokcaaGreatDoor
open Go.RowKit Go.V
theorem LSp.fr {w w' : World} {x : Nat} {dv : Value} {pre num : ByteArray} {sz nx : Nat} {Md F : Nat → Prop} {D : Dk} (h : LSp w w' x dv pre num sz nx Md F D) : ∃ M' F', Fr w w' x Md F M' F' ∧ LS w' x dv pre num sz nx M' F' D := by
  obtain ⟨M', F', hL, hC, hM, hF⟩ := h
  exact ⟨M', F', ⟨hC, hM, hF⟩, hL⟩
/-- a new segment is there, and what was put into it -/
theorem LT.fresh {w w' : World} {x m : Nat} {dv : Value} {pre : ByteArray} {Md F M' F' : Nat → Prop} {D : Dk} {c : Nat} {sg : List (List (List UInt8))} {lo f nx nx' : Nat} {b : List UInt8} {s0 : List (List UInt8)} (h : LT w x dv pre Md F D c sg lo f m nx) (hb : b = recsF nx s0) (hb2 : b.length ≤ 2000) (hm : m < 1000000) (hn : nx' = nx + s0.length) (hE : (doF D (acP (nameF pre (m + 1)) b)).2 = 0)
    (hL : LS w' x dv pre ⟨(digs (m + 1)).toArray⟩ b.length nx' M' F' (doF D (acP (nameF pre (m + 1)) b)).1) : LT w' x dv pre M' F' (doF D (acP (nameF pre (m + 1)) b)).1 (c + 1) (sg ++ [s0]) lo f (m + 1) nx' := by
  have hmc := h.mc
  have hlm := h.lm
  have hnn := h.n
  rcases h.d.put (acP (nameF pre (m + 1)) b) rfl (name_ok h.pz (by omega)) hb2 with ⟨hd, _⟩ | ⟨_, hP⟩
  · rw [hd] at hE
    exact absurd hE (by show ¬ (4 : Int) = 0; decide)
  · have hfl := fl_new (pre := pre) (lo := lo) (f := f) (m := m) (sg := sg) (s0 := s0) (b := b) hlm (by rw [hb, hnn])
    rw [show (fun n => if n = (acP (nameF pre (m + 1)) b).n then some ((fileF pre lo f sg (acP (nameF pre (m + 1)) b).n).getD [] ++ (acP (nameF pre (m + 1)) b).b) else fileF pre lo f sg n) = fileF pre lo f (sg ++ [s0]) from hfl] at hP
    have e : lastZ f (sg ++ [s0]) = b.length := by rw [lastZ_snoc, hnn, ← hb]
    exact ⟨by rw [e]; exact hL, hP, by simp; omega, h.l1, h.f1, by rw [flat_snoc, hn]; omega, by omega, h.pz, fun e => by simp at e⟩
set_option maxRecDepth 100000 in
set_option maxHeartbeats 4000000 in
/-- a cut's new segment, where nothing is kept -/
theorem begin_none (x m : Nat) (dv : Value) (pre : ByteArray) (Md F : Nat → Prop) (D : Dk) (c : Nat) (sg : List (List (List UInt8))) (lo f nx cv : Nat) (A : Option Addr) (w : World) (hK : KS w) (h : LT w x dv pre Md F D c sg lo f m nx) (hc : c ≤ 100000) :
    Calls Tryz.prog 24 #[.pointer (some ⟨x, 0, none⟩), .slice A 0 cv] w fun e w' => ∃ (E : Int) (M' F' : Nat → Prop), e = .returned (.int .i64 E) ∧ Fr w w' x Md F M' F' ∧ (E = 0 → ∃ D' m' b, LT w' x dv pre M' F' D' (c + 1) (sg ++ b) lo f m' nx ∧ b ≠ [] ∧ b.flatten = []) := by
  obtain ⟨xd, rfl⟩ := h.s.i.ptr
  have hmc := h.mc
  have hz := h.size
  have hsm := h.d.sm (by omega)
  have hbd := h.s.i.bd
  have hn9 : (⟨(digs (m + 1)).toArray⟩ : ByteArray).size ≤ 900 := by
    show (digs (m + 1)).toArray.size ≤ 900
    have : (digs (m + 1)).length ≤ 10 := digs_len 10 _ (by omega)
    simp
    omega
  obtain ⟨E, hE⟩ : ∃ E, E = (doF D (acP (nameF pre (m + 1)) [])).2 := ⟨_, rfl⟩
  obtain ⟨D1, hD'⟩ : ∃ D1, D1 = (doF D (acP (nameF pre (m + 1)) [])).1 := ⟨_, rfl⟩
  have HE := hid hE
  have HD := hid hD'
  have hLs := h.s
  go_enter Tryz.func24, Tryz.ntmps24
  go_wp2_with (fail)
  refine (fresh_e x m _ pre _ nx _ hLs.b (by omega)).mono ?_
  rintro e w1 ⟨rfl, hB1⟩
  have hL1 := hLs.below hB1
  go_wp2_with (fail)
  refine (add_e2 x _ pre _ _ _ nx 0 Md F (fun _ => False) D D1 E [] _ _ hL1 hsm h.pz hn9 (by simp) (by omega) (Rd.nil _ _) (fun _ e => e.elim) (Nat.lt_of_lt_of_le hK.lt hB1.size) hE hD').mono ?_
  clear hE hD'
  rintro e w2 ⟨rfl, num1, sz1, h0, h4, hP⟩
  obtain ⟨M', F', hFr, hL2⟩ := hP.fr
  have hFr2 := (Fr.refl (x := x) (Md := Md) (F := F) hB1).trans hFr
  go_wp2
  go_ret
  refine ⟨E, M', F', rfl, hFr2, fun hE0 => ?_⟩
  obtain ⟨rfl, rfl⟩ := h0 hE0
  rw [HD.out] at hL2
  exact ⟨_, m + 1, [[]], h.fresh (M' := M') (F' := F') (b := []) (s0 := []) (nx' := nx) rfl (by simp) (by omega) rfl (by rw [← HE.out]; exact hE0) hL2, by simp, by simp⟩
set_option maxRecDepth 100000 in
set_option maxHeartbeats 4000000 in
/-- a cut's new segments -/
theorem begin_some (x m : Nat) (dv : Value) (pre : ByteArray) (Md F G : Nat → Prop) (D : Dk) (c : Nat) (sg : List (List (List UInt8))) (lo f nx : Nat) (t0 : List UInt8) (ks : List (List UInt8)) (vk : Value) (w : World) (hK : KS w) (h : LT w x dv pre Md F D c sg lo f m nx) (hc : c + ks.length + 1 ≤ 100000) (hnx : nx + ks.length + 1 ≤ 1000000) (hk : Rd w G vk (tx (t0 :: ks))) (hG : ∀ y, G y → ¬ Md y ∧ y ≠ x) (hl : ∀ t ∈ t0 :: ks, t.length ≤ 1000) :
    Calls Tryz.prog 24 #[.pointer (some ⟨x, 0, none⟩), vk] w fun e w' => ∃ (E : Int) (M' F' : Nat → Prop), e = .returned (.int .i64 E) ∧ Fr w w' x Md F M' F' ∧ (E = 0 → ∃ D' m' b, LT w' x dv pre M' F' D' (c + 1 + ks.length) (sg ++ b) lo f m' (nx + 1 + ks.length) ∧ b ≠ [] ∧ b.flatten = t0 :: ks) := by
  obtain ⟨xd, rfl⟩ := h.s.i.ptr
  have hk := hk.weak (F' := fun b => G b ∧ b < w.heap.size) (fun b hb e => ⟨e, hb⟩)
  obtain ⟨A, cv, rfl, hc1, hc2⟩ := hk.slShape
  have hmc := h.mc
  have hz := h.size
  have hsm := h.d.sm (by omega)
  have hbd := h.s.i.bd
  have hxl := h.s.b.lt
  have ht0 : t0.length ≤ 1000 := hl t0 (List.mem_cons_self ..)
  have hn9 : (⟨(digs (m + 1)).toArray⟩ : ByteArray).size ≤ 900 := by
    show (digs (m + 1)).toArray.size ≤ 900
    have : (digs (m + 1)).length ≤ 10 := digs_len 10 _ (by omega)
    simp
    omega
  obtain ⟨G0, off0, u0, rfl, hGG, hx0, hu0⟩ := Rd.elem hk 0 (bys t0) rfl
  rw [Nat.add_zero] at hx0
  obtain ⟨A0, c0, rfl⟩ := hu0.shape
  obtain ⟨A1, m1, c1, hsl, hk1⟩ := Rd.txcut_l (P := Tryz.prog) slBBG hk 1 (by omega) (by simp only [List.length_cons]; omega)
  rw [show (1 : Int).toNat = 1 from rfl, List.drop_succ_cons, List.drop_zero] at hk1
  obtain ⟨A1', c1', e1, _, _⟩ := hk1.slShape
  injection e1 with e1 e2 e3
  subst e1 e2 e3
  have Hl := hid hl
  obtain ⟨E, hE⟩ : ∃ E, E = (doF D (acP (nameF pre (m + 1)) (recF nx t0))).2 := ⟨_, rfl⟩
  obtain ⟨D1, hD'⟩ : ∃ D1, D1 = (doF D (acP (nameF pre (m + 1)) (recF nx t0))).1 := ⟨_, rfl⟩
  have HE := hid hE
  have HD := hid hD'
  have hs := hsm
  have HL := hid h.s.drew
  have HKS := hid hK.drew
  have HV0 := hid hu0.drew
  have HT0 : Hid (∀ W, Ch (fun y => Md y ∨ y = x) w W → W.cell? ⟨G0, off0, none⟩ = some (.slice A0 t0.length c0)) := hid fun W hcc => (World.cell?_of_block (hcc.block G0 hGG.2 (fun e => e.elim (hG G0 hGG.1).1 (hG G0 hGG.1).2))).trans hx0
  simp only [List.length_cons] at hsl hk hc1 ⊢
  have Hsl := hid hsl
  have hcI : (0 : Int) < (ks.length : Int) + 1 := by omega
  clear hsl hl
  go_enter Tryz.func24, Tryz.ntmps24
  go_upto_region 3 with (fail)
  -- BEG
  refine wp_region_noPanic ?_
  refine wp_region_held_drew (S := Ch (fun y => Md y ∨ y = x) w) (by kernel_rfl) ((Ch.refl _ _).drew) (fun hHeld => ?_)
  refine wpAnyH_take (i := 0) (oi := ⟨some 16, _, _, _, _, none⟩) (v := ?_) rfl (by kernel_rfl) (by kernel_rfl) (by kernel_rfl) (fun _ _ _ h => h) (Or.inl ⟨by rfl, ?_⟩) (by assumption) ?_
  rotate_left
  · intro w hSw; go_simp; try with_reducible rfl
  try simp only [Act.put, List.setIfInBounds_toArray, List.set_cons_zero, List.set_cons_succ]
  refine wpAnyH_take (i := 1) (oi := ⟨some 17, _, _, _, _, none⟩) (v := ?_) rfl (by kernel_rfl) (by kernel_rfl) (by kernel_rfl) (fun _ _ _ h => h) (Or.inl ⟨by rfl, ?_⟩) (by assumption) ?_
  rotate_left
  · intro w hSw; go_simp; try with_reducible rfl
  try simp only [Act.put, List.setIfInBounds_toArray, List.set_cons_zero, List.set_cons_succ]
  refine wpAnyH_take (i := 3) (oi := ⟨some 19, _, _, _, _, none⟩) (v := ?_) rfl (by kernel_rfl) (by kernel_rfl) (by kernel_rfl) (fun _ _ _ h => h) (Or.inl ⟨by rfl, ?_⟩) (by assumption) ?_
  rotate_left
  · intro w hSw; go_simp; try with_reducible rfl
  try simp only [Act.put, List.setIfInBounds_toArray, List.set_cons_zero, List.set_cons_succ]
  refine wpAnyH_take (i := 4) (oi := ⟨some 20, _, _, _, _, none⟩) (v := ?_) rfl (by kernel_rfl) (by kernel_rfl) (by kernel_rfl) (fun _ _ _ h => h) (Or.inl ⟨by rfl, ?_⟩) (by assumption) ?_
  rotate_left
  · intro w hSw; go_simp; try with_reducible rfl
  try simp only [Act.put, List.setIfInBounds_toArray, List.set_cons_zero, List.set_cons_succ]
  refine wpAnyH_take (i := 5) (oi := ⟨some 21, _, _, _, _, none⟩) (v := ?_) rfl (by kernel_rfl) (by kernel_rfl) (by kernel_rfl) (fun _ _ _ h => h) (Or.inl ⟨by rfl, ?_⟩) (by assumption) ?_
  rotate_left
  · intro w hSw; have hcw := HT0.out w hSw; go_simp; try with_reducible rfl
  try simp only [Act.put, List.setIfInBounds_toArray, List.set_cons_zero, List.set_cons_succ]
  refine wpAnyH_ready (rs := [2]) (by kernel_rfl) (by simp) ?_
  refine AllReadyH.cons (o := ⟨some 18, _, _, _, _, none⟩) rfl (fun K hK => ?_) AllReadyH.nil
  go_simp
  refine (fresh_e x m _ pre _ nx _ HL.out.b (by omega)).mono ?_
  rintro e w5 ⟨rfl, hB5⟩
  have hL5 := HL.out.below hB5
  have K5 := HKS.out.below hB5
  have hv5 := HV0.out.below hB5
  refine hK.out _ _ (hHeld.belowR hB5) (fun hHeld => ?_)
  clear hK K
  try simp only [Act.put, List.setIfInBounds_toArray, List.set_cons_zero, List.set_cons_succ]
  refine wpAnyH_ready (rs := [6]) (by kernel_rfl) (by simp) ?_
  refine AllReadyH.cons (o := ⟨some 22, _, _, _, _, none⟩) rfl (fun K hK => ?_) AllReadyH.nil
  go_simp
  refine (put_e x _ pre _ _ _ nx 0 Md F _ D D1 E t0 _ _ K5 hL5 hs h.pz hn9 (by omega) (by omega) (by omega) hv5 hE hD').mono ?_
  clear hE hD'
  rintro e w6 ⟨rfl, num1, sz1, nx1, h0, h4, hP6⟩
  refine hK.out _ _ (hHeld.trans hP6.ch) (fun hHeld => ?_)
  clear hK K
  try simp only [Act.put, List.setIfInBounds_toArray, List.set_cons_zero, List.set_cons_succ]
  refine wpAnyH_take (i := 7) (oi := ⟨some 5, _, _, _, _, none⟩) (v := ?_) rfl (by kernel_rfl) (by kernel_rfl) (by kernel_rfl) (fun _ _ _ h => h) (Or.inl ⟨by rfl, ?_⟩) (by assumption) ?_
  rotate_left
  · intro w hSw; go_simp; try with_reducible rfl
  try simp only [Act.put, List.setIfInBounds_toArray, List.set_cons_zero, List.set_cons_succ]
  refine wpAnyH_done (by kernel_rfl) ?_ _
  refine NoPanic.normal ?_
  -- BEG end
  have hP := LSp.trans (w := w) (M1 := Md) (F1 := F) (((Ch.refl _ _).drew : Ch (fun y => Md y ∨ y = x) w w.drew).trans (((Ch.refl _ _).belowR hB5 : Ch (fun y => Md y ∨ y = x) w.drew w5))) (fun b e => .inl e) (fun b e => .inl e) hP6
  clear HT0 HV0 HKS HL hHeld hP6 hL5 K5 hv5 hB5
  by_cases hE0 : E = 0
  · subst hE0
    obtain ⟨rfl, rfl, rfl⟩ := h0 rfl
    clear h0 h4
    obtain ⟨M', F', hFr, hL2⟩ := hP.fr
    rw [HD.out, Nat.zero_add] at hL2
    have hT := h.fresh (M' := M') (F' := F') (b := recF nx t0) (s0 := [t0]) (nx' := nx + 1) (by simp [recsF]) (rec_len ht0) (by omega) rfl HE.out.symm hL2
    have HT := hid hT
    obtain ⟨D0, hD0⟩ : ∃ D0, D0 = (doF D (acP (nameF pre (m + 1)) (recF nx t0))).1 := ⟨_, rfl⟩
    rw [← hD0] at HT
    clear hT hL2 HD hP hD0 hx0 hu0 HE
    have hsl := Hsl.out
    have hKl := hK.lt
    have hcm := h.s.cm
    have hxk := h.s.xk
    go_wp2
    go_loopw [29] (fun iv wr => ∃ (j : Nat) (M1 F1 : Nat → Prop) (D1 : Dk) (b : List (List (List UInt8))) (m1 : Nat), j ≤ ks.length ∧ iv = .int .i64 j ∧ LT wr x (.pointer (some ⟨xd, 0, none⟩)) pre M1 F1 D1 (c + 1 + j) (sg ++ b) lo f m1 (nx + 1 + j) ∧ b ≠ [] ∧ Hid (b.flatten = t0 :: ks.take j) ∧ Fr w wr x Md F M1 F1) (fun iv _ => ks.length - (intOf iv).toNat)
    case atStart => exact ⟨0, M', F', D0, [[t0]], m + 1, Nat.zero_le _, rfl, HT.out, by simp, by show _ = _; simp, hFr⟩
    case round =>
      clear HT hFr
      obtain ⟨j, M1, F1, D1, b, m1, hj, rfl, hT, hb, hbf, hFr⟩ := hrel
      have hin1 : IntKind.i64.wrap ((j : Int) + 1) = (j : Int) + 1 := IntWalk.i64_in _ (by omega)
      by_cases hlt : j < ks.length
      · have hI : (j : Int) < (ks.length : Int) := by omega
        obtain ⟨t, ht⟩ : ∃ t, ks[j]? = some t := ⟨_, List.getElem?_eq_getElem hlt⟩
        have htl : t.length ≤ 1000 := Hl.out t (List.mem_cons_of_mem _ (List.mem_of_getElem? ht))
        have hkr := hk1.ch hFr.1 (fun y e e2 => e2.elim (hG y e.1).1 (hG y e.1).2)
        obtain ⟨G1, off1, u1, rfl, _, hx1, hu1⟩ := Rd.elem hkr j (bys t) (by rw [List.getElem?_map, ht]; rfl)
        obtain ⟨Au, cu, rfl⟩ := hu1.shape
        have hws := hFr.1.size
        have Kr : KS wr := hK.keep (hFr.1.block _ hKl (fun e => e.elim hcm (fun e => hxk e.symm)))
        have Htk : Hid (ks.take (j + 1) = ks.take j ++ [t]) := by show _ = _; rw [List.take_add_one, ht]; rfl
        clear hkr ht
        go_wp2_with (fail)
        refine (append_t x m1 _ pre M1 F1 _ D1 _ _ lo f _ t _ _ Kr hT (by omega) (by omega) htl hu1 (fun y e => by have := e.2; omega)).mono ?_
        rintro e w7 ⟨E7, M7, F7, D7, sg7, m7, rfl, hFr7, hOr⟩
        have hFr8 := hFr.trans hFr7
        clear hx1 hu1 Kr hT hFr hFr7
        rcases hOr with ⟨rfl, hT7, hGr⟩ | ⟨rfl, hT7⟩
        · have HT7 := hid hT7
          clear hT7
          go_wp2
          go_roundw
          case rel =>
            obtain ⟨b', rfl, hb2, hb3⟩ := hGr.behind hb
            exact ⟨j + 1, M7, F7, D7, b', m7, by omega, by go_num, HT7.out, hb2, by show _ = _; rw [hb3, hbf.out, Htk.out]; rfl, hFr8⟩
          case measure => simp [intOf]; omega
        · clear hT7
          go_wp2
          go_ret
          exact ⟨4, M7, F7, rfl, hFr8, fun h => by simp at h⟩
      · have hj' : j = ks.length := by omega
        subst hj'
        have hI : ¬ (ks.length : Int) < (ks.length : Int) := by omega
        have HT := hid hT
        clear hT
        go_wp2
        go_ret
        first | exact ⟨0, M1, F1, rfl, hFr, fun _ => ⟨D1, m1, b, HT.out, hb, by have := hbf.out; rwa [List.take_length] at this⟩⟩ | exact ⟨0, rfl, M1, F1, hFr, fun _ => ⟨D1, m1, b, HT.out, hb, by have := hbf.out; rwa [List.take_length] at this⟩⟩
  · obtain ⟨M', F', hFr, hL2⟩ := hP.fr
    go_wp2
    go_ret
    exact ⟨E, M', F', rfl, hFr, fun h => absurd h hE0⟩
end Go.Proofs.YtcechioeolokcaaGreatDoor
/- H9: layer 11: Cut. -/
namespace Go.V
open Go.RowKit
theorem fl_del {pre : ByteArray} {lo f : Nat} {s : List (List UInt8)} {r : List (List (List UInt8))} :
    (fun n => if n = nameF pre lo then none else fileF pre lo f (s :: r) n) = fileF pre (lo + 1) (f + s.length) r := by
  funext n
  by_cases h : n = nameF pre lo
  · rw [if_pos h, h, file_none r (lo + 1) _ lo (by omega)]
  · rw [if_neg h, fileF, if_neg h]
theorem lastZ_cons {f : Nat} {s : List (List UInt8)} {r : List (List (List UInt8))} (h : r ≠ []) : lastZ f (s :: r) = lastZ (f + s.length) r := by
  cases r with
  | nil => exact absurd rfl h
  | cons t r => rfl
end Go.V
namespace Go.Proofs.YtcechioeolokcaaGreatDoor
open Go.RowKit Go.V
theorem LT.mono {w : World} {x : Nat} {dv : Value} {pre : ByteArray} {Md F : Nat → Prop} {D : Dk} {c c' : Nat} {sg : List (List (List UInt8))} {lo f m nx : Nat} (h : LT w x dv pre Md F D c sg lo f m nx) (hc : c ≤ c') : LT w x dv pre Md F D c' sg lo f m nx :=
  ⟨h.s, h.d.mono hc, h.lm, h.l1, h.f1, h.n, Nat.le_trans h.mc hc, h.pz, h.m0⟩
theorem begin_t (x m : Nat) (dv : Value) (pre : ByteArray) (Md F G : Nat → Prop) (D : Dk) (c : Nat) (sg : List (List (List UInt8))) (lo f nx : Nat) (keep : List (List UInt8)) (vk : Value) (w : World) (hK : KS w) (h : LT w x dv pre Md F D c sg lo f m nx) (hc : c + keep.length + 1 ≤ 100000) (hnx : nx + keep.length ≤ 1000000) (hk : Rd w G vk (tx keep)) (hG : ∀ y, G y → ¬ Md y ∧ y ≠ x) (hl : ∀ t ∈ keep, t.length ≤ 1000) :
    Calls Tryz.prog 24 #[.pointer (some ⟨x, 0, none⟩), vk] w fun e w' => ∃ (E : Int) (M' F' : Nat → Prop), e = .returned (.int .i64 E) ∧ Fr w w' x Md F M' F' ∧ (E = 0 → ∃ D' m' b, LT w' x dv pre M' F' D' (c + 1 + keep.length) (sg ++ b) lo f m' (nx + keep.length) ∧ b ≠ [] ∧ b.flatten = keep) := by
  cases keep with
  | nil =>
    obtain ⟨A, cv, rfl, _, _⟩ := hk.slShape
    exact begin_none x m dv pre Md F D c sg lo f nx cv A w hK h (by omega)
  | cons t0 ks =>
    simp only [List.length_cons] at hc hnx
    refine (begin_some x m dv pre Md F G D c sg lo f nx t0 ks vk w hK h (by omega) (by omega) hk hG hl).mono ?_
    rintro e w1 ⟨E, M', F', rfl, hFr, hE⟩
    refine ⟨E, M', F', rfl, hFr, fun h0 => ?_⟩
    obtain ⟨D', m', b, hT, hb, hbf⟩ := hE h0
    refine ⟨D', m', b, ?_, hb, hbf⟩
    have e1 : nx + (t0 :: ks).length = nx + 1 + ks.length := by simp only [List.length_cons]; omega
    rw [e1]
    exact hT.mono (by simp only [List.length_cons]; omega)
theorem LT.len {w : World} {x : Nat} {dv : Value} {pre : ByteArray} {Md F : Nat → Prop} {D : Dk} {c : Nat} {sg : List (List (List UInt8))} {lo f m nx : Nat} (h : LT w x dv pre Md F D c sg lo f m nx) : (nowF D).length ≤ c ∧ sg.length ≤ c := by
  have h1 := h.d.count
  have h2 := h.lm
  have h3 := h.l1
  have h4 := h.mc
  omega
theorem LT.sync {w w' : World} {x : Nat} {dv : Value} {pre : ByteArray} {Md F M' F' : Nat → Prop} {D : Dk} {c : Nat} {sg : List (List (List UInt8))} {lo f m nx : Nat} (h : LT w x dv pre Md F D c sg lo f m nx) (hL : LS w' x dv pre ⟨(digs m).toArray⟩ (lastZ f sg) nx M' F' (doF D acS).1) : LT w' x dv pre M' F' (doF D acS).1 c sg lo f m nx :=
  ⟨hL, h.d.sync acS rfl h.len.1, h.lm, h.l1, h.f1, h.n, h.mc, h.pz, h.m0⟩
theorem sync_t (x m : Nat) (dv : Value) (pre : ByteArray) (Md F : Nat → Prop) (D : Dk) (c : Nat) (sg : List (List (List UInt8))) (lo f nx : Nat) (w : World) (hK : KS w) (h : LT w x dv pre Md F D c sg lo f m nx) (hc : c ≤ 200000) :
    Calls Tryz.prog 13 #[.pointer (some ⟨x, 0, none⟩)] w fun e w' => ∃ M' F' D', e = .returned (.tuple #[]) ∧ Fr w w' x Md F M' F' ∧ LT w' x dv pre M' F' D' c sg lo f m nx := by
  refine (sync_l x dv pre _ _ nx Md F D w h.s (h.d.sm hc) hK.lt).mono ?_
  rintro e w1 ⟨rfl, hP⟩
  obtain ⟨M', F', hFr, hL⟩ := hP.fr
  exact ⟨M', F', _, rfl, hFr, h.sync hL⟩
theorem remove_t (x m : Nat) (dv : Value) (pre : ByteArray) (Md F : Nat → Prop) (D : Dk) (c : Nat) (s : List (List UInt8)) (r : List (List (List UInt8))) (lo f nx : Nat) (w : World) (hK : KS w) (h : LT w x dv pre Md F D c (s :: r) lo f m nx) (hr : r ≠ []) (hc : c ≤ 100000) :
    Calls Tryz.prog 25 #[.pointer (some ⟨x, 0, none⟩), .string ⟨(digs lo).toArray⟩] w fun e w' => ∃ M' F' D', e = .returned (.int .i64 0) ∧ Fr w w' x Md F M' F' ∧ LT w' x dv pre M' F' D' c r (lo + 1) (f + s.length) m nx := by
  have hlm := h.lm
  have hmc := h.mc
  have hl1 := h.l1
  simp only [List.length_cons] at hlm
  have hfl : (fileF pre lo f (s :: r) (nameF pre lo)).isSome = true := by rw [fileF, if_pos rfl]; rfl
  obtain ⟨hE, hP⟩ := h.d.del (acX (nameF pre lo)) rfl (name_ok h.pz (by omega)) rfl hfl
  rw [show (fun n => if n = (acX (nameF pre lo)).n then none else fileF pre lo f (s :: r) n) = fileF pre (lo + 1) (f + s.length) r from fl_del] at hP
  have hcount := hP.count
  have hP2 := hP.sync (c' := c) acS rfl (by omega)
  have hn9 : (⟨(digs lo).toArray⟩ : ByteArray).size ≤ 900 := by
    show (digs lo).toArray.size ≤ 900
    have : (digs lo).length ≤ 10 := digs_len 10 _ (by omega)
    simp
    omega
  refine (remove_e x dv pre _ ⟨(digs lo).toArray⟩ _ nx Md F D _ _ w h.s (h.d.sm (by omega)) h.pz hn9 hE rfl (hP.sm (by omega)) rfl hP2.cm.2 hK.lt).mono ?_
  rintro e w1 ⟨rfl, hQ⟩
  obtain ⟨M', F', hFr, hL⟩ := hQ.fr
  have hn := h.n
  have hff : (s :: r).flatten.length = s.length + r.flatten.length := by simp
  refine ⟨M', F', _, rfl, hFr, ⟨?_, hP2, by omega, by omega, by have := h.f1; omega, by omega, h.mc, h.pz, fun e => absurd e hr⟩⟩
  rw [← lastZ_cons hr]
  exact hL
set_option maxRecDepth 100000 in
set_option maxHeartbeats 4000000 in
theorem cut_t (x m : Nat) (dv : Value) (pre : ByteArray) (Md F G : Nat → Prop) (D : Dk) (c : Nat) (sg : List (List (List UInt8))) (lo f nx : Nat) (keep : List (List UInt8)) (vk : Value) (w : World) (hK : KS w) (h : LT w x dv pre Md F D c sg lo f m nx) (hc : c + keep.length + 1 ≤ 100000) (hnx : nx + keep.length ≤ 1000000) (hk : Rd w G vk (tx keep)) (hG : ∀ y, G y → ¬ Md y ∧ y ≠ x) (hl : ∀ t ∈ keep, t.length ≤ 1000) :
    Calls Tryz.prog 12 #[.pointer (some ⟨x, 0, none⟩), vk] w fun e w' => ∃ (E : Int) (M' F' : Nat → Prop), e = .returned (.int .i64 E) ∧ Fr w w' x Md F M' F' ∧ (E = 0 → ∃ D' m' b lo' , LT w' x dv pre M' F' D' (c + 1 + keep.length) b lo' nx m' (nx + keep.length) ∧ b.flatten = keep) := by
  obtain ⟨A, cv, rfl, hc1, hc2⟩ := hk.slShape
  have hk := hk.weak (F' := fun b => G b ∧ b < w.heap.size) (fun b hb e => ⟨e, hb⟩)
  have hlen := h.len
  have hlm := h.lm
  have hmc := h.mc
  have hbd := h.s.i.bd
  have hxl := h.s.b.lt
  obtain ⟨N, hN⟩ : ∃ N, N = sg.length := ⟨_, rfl⟩
  have hseg := segments_e x lo sg.length dv pre _ _ nx Md F D w h.s.b h.s.i (h.d.sm (by omega)) h.d.names h.pz h.l1 (by omega) (by omega)
  have Hseg := hid hseg
  clear hseg
  go_enter Tryz.func12, Tryz.ntmps12
  go_wp2_with (fail)
  refine Hseg.out.mono ?_
  rintro e w1 ⟨Ao, co, rfl, ho1, hB1⟩
  have hT1 := h.keep (w' := w1) (fun b hb _ => hB1.block b hb) hB1.size
  have hk1 := hk.below hB1
  have K1 := hK.below hB1
  have hw1 := hB1.size
  clear Hseg hk
  go_wp2_with (fail)
  refine (begin_t x m dv pre Md F _ D c sg lo f nx keep _ _ K1 hT1 hc hnx hk1 (fun y e => hG y e.1) hl).mono ?_
  rintro e w2 ⟨E, M2, F2, rfl, hFr2, hE⟩
  by_cases hE0 : E = 0
  · subst hE0
    obtain ⟨D2, m2, b, hT2, hb, hbf⟩ := hE rfl
    have K2 : KS w2 := K1.keep (hFr2.1.block _ K1.lt (fun e => e.elim hT1.s.cm (fun e => hT1.s.xk e.symm)))
    have hsy := synced_e x dv pre _ _ _ M2 F2 D2 _ w2 hT2.s (hT2.d.sm (by omega)) rfl ((hT2.d.sync acS rfl hT2.len.1).cm.2) K2.lt
    have Hsy := hid hsy
    clear hsy
    go_wp2_with (fail)
    refine Hsy.out.mono ?_
    rintro e w3 ⟨rfl, hP3⟩
    obtain ⟨M3, F3, hFr3, hL3⟩ := hP3.fr
    have hT3 := hT2.sync hL3
    have hFr13 := hFr2.trans hFr3
    obtain ⟨D3, hD3⟩ : ∃ D3, D3 = (doF D2 acS).1 := ⟨_, rfl⟩
    rw [← hD3] at hT3
    have HT3 := hid hT3
    clear Hsy hT3 hT2 hL3 hP3 hD3 hFr2 hFr3 hE
    have hKl := K1.lt
    have hcm := h.s.cm
    have hxk := h.s.xk
    have hnn := h.n
    have hl1 := h.l1
    clear hN
    go_wp2
    go_loopw [24] (fun iv wr => ∃ (j : Nat) (M1 F1 : Nat → Prop) (D1 : Dk), j ≤ sg.length ∧ iv = .int .i64 j ∧ LT wr x dv pre M1 F1 D1 (c + 1 + keep.length) (sg.drop j ++ b) (lo + j) (f + (sg.take j).flatten.length) m2 (nx + keep.length) ∧ Fr w1 wr x Md F M1 F1) (fun iv _ => sg.length - (intOf iv).toNat)
    case atStart => exact ⟨0, M3, F3, D3, Nat.zero_le _, rfl, HT3.out, hFr13⟩
    case round =>
      clear HT3 hFr13
      obtain ⟨j, M4, F4, D4, hj, rfl, hT, hFr⟩ := hrel
      have hin1 : IntKind.i64.wrap ((j : Int) + 1) = (j : Int) + 1 := IntWalk.i64_in _ (by omega)
      by_cases hlt : j < sg.length
      · have hI : (j : Int) < (sg.length : Int) := by omega
        obtain ⟨s, hs⟩ : ∃ s, sg[j]? = some s := ⟨_, List.getElem?_eq_getElem hlt⟩
        have hdr : sg.drop j = s :: sg.drop (j + 1) := by
          rw [List.drop_eq_getElem_cons hlt]
          rw [List.getElem?_eq_getElem hlt] at hs
          injection hs with hs
          rw [hs]
        have Htk : Hid ((sg.take (j + 1)).flatten.length = (sg.take j).flatten.length + s.length) := by show _ = _; rw [List.take_add_one, hs]; simp
        rw [hdr, List.cons_append] at hT
        have hor := ho1.ch hFr.1 (fun y e e2 => by
          have e : w.heap.size ≤ y := e
          rcases e2 with e2 | e2
          · have := hbd y (.inl e2); omega
          · omega)
        obtain ⟨g, off, rfl, _, hcl⟩ := strs_el hor (i := j) (s := ⟨(digs (lo + j)).toArray⟩) (by
          unfold bas nums
          rw [List.getElem?_map, List.getElem?_map, List.getElem?_range' hlt]
          simp)
        have Kr : KS wr := K1.keep (hFr.1.block _ hKl (fun e => e.elim hcm (fun e => hxk e.symm)))
        have hrm := remove_t x m2 dv pre M4 F4 D4 _ s (sg.drop (j + 1) ++ b) (lo + j) _ _ wr Kr hT (by simp [hb]) (by omega)
        have Hrm := hid hrm
        clear hrm hT hor Kr hdr hs
        go_wp2_with (fail)
        refine Hrm.out.mono ?_
        rintro e w5 ⟨M5, F5, D5, rfl, hFr5, hT5⟩
        have hFr6 := hFr.trans hFr5
        rw [show lo + j + 1 = lo + (j + 1) from by omega, show f + (sg.take j).flatten.length + s.length = f + (sg.take (j + 1)).flatten.length from by rw [Htk.out]; omega] at hT5
        have HT5 := hid hT5
        clear hT5 hFr hFr5 Hrm hcl Htk
        go_wp2
        go_roundw
        case rel => exact ⟨j + 1, M5, F5, D5, by omega, by go_num, HT5.out, hFr6⟩
        case measure => simp [intOf]; omega
      · have hj' : j = sg.length := by omega
        subst hj'
        have hI : ¬ (sg.length : Int) < (sg.length : Int) := by omega
        rw [List.drop_length, List.nil_append, List.take_length, hnn] at hT
        have HT := hid hT
        have hFr9 := (Fr.refl (x := x) (Md := Md) (F := F) hB1).trans hFr
        clear hT hFr
        go_wp2
        go_ret
        exact ⟨0, rfl, M4, F4, hFr9, fun _ => ⟨D4, m2, b, ⟨lo + sg.length, HT.out⟩, hbf⟩⟩
  · have hFr9 := (Fr.refl (x := x) (Md := Md) (F := F) hB1).trans hFr2
    clear hE
    go_wp2_with (fail)
    refine (synced_bad x E hE0 _).mono ?_
    rintro e w3 ⟨rfl, rfl⟩
    go_wp2
    go_ret
    exact ⟨E, M2, F2, rfl, hFr9, fun h => absurd h hE0⟩
end Go.Proofs.YtcechioeolokcaaGreatDoor
/- HA: layer 11: a log is opened. -/
namespace Go.V
open Go.RowKit
theorem Rd.srcTx {w : World} {F : Nat → Prop} {A : Option Addr} {n c : Nat} {l : List (List UInt8)} (h : Rd w F (.slice A n c) (tx l)) : ∃ us, Src w A l.length us ∧ TxX w F l us := by
  have hsh := h.slShape
  obtain ⟨A', c', e, _, _⟩ := hsh
  injection e with e1 e2 e3
  subst e2
  cases hl : l with
  | nil => exact ⟨[], ⟨rfl, fun j u h => by simp at h⟩, TxX.nil _ _⟩
  | cons t r =>
    rw [hl] at h
    obtain ⟨g, off, u0, rfl, _, _, _⟩ := Rd.elem h 0 (bys t) rfl
    have hall : ∀ i (t' : List UInt8), (t :: r)[i]? = some t' → ∃ u, w.cell? ⟨g, off + i, none⟩ = some u ∧ Rd w F u (bys t') := by
      intro i t' ht
      obtain ⟨g', off', u, hA, _, hc, hu⟩ := Rd.elem h i (bys t') (by rw [List.getElem?_map, ht]; rfl)
      injection hA with hA
      injection hA with h1 h2 h3
      subst h1 h2
      exact ⟨u, hc, hu⟩
    refine ⟨(List.range (t :: r).length).map fun i => (w.cell? ⟨g, off + i, none⟩).getD undef, ⟨by simp, fun j u hu => ?_⟩, ⟨by simp, fun i u t' hu ht => ?_⟩⟩
    · rw [List.getElem?_map] at hu
      have hj : j < (t :: r).length := by
        rcases Nat.lt_or_ge j (t :: r).length with h | h
        · exact h
        · rw [List.getElem?_eq_none (by rw [List.length_range]; exact h)] at hu; cases hu
      rw [List.getElem?_range hj] at hu
      injection hu with hu
      obtain ⟨u', hc, _⟩ := hall j _ (List.getElem?_eq_getElem hj)
      dsimp only at hu
      rw [hc] at hu
      have hu : u' = _ := hu
      subst hu
      exact ⟨g, off, rfl, hc⟩
    · have hi : i < (t :: r).length := (List.getElem?_eq_some_iff.1 ht).1
      rw [List.getElem?_map, List.getElem?_range hi] at hu
      injection hu with hu
      obtain ⟨u', hc, hr⟩ := hall i _ ht
      dsimp only at hu
      rw [hc] at hu
      have hu : u' = _ := hu
      subst hu
      exact hr
theorem TxX.app {w : World} {F : Nat → Prop} {l l2 : List (List UInt8)} {us us2 : List Value} (h : TxX w F l us) (h2 : TxX w F l2 us2) : TxX w F (l ++ l2) (us ++ us2) := by
  refine ⟨by simp [h.len, h2.len], fun i v x hv hx => ?_⟩
  rcases Nat.lt_or_ge i us.length with hi | hi
  · rw [List.getElem?_append_left hi] at hv
    rw [List.getElem?_append_left (by rw [← h.len]; exact hi)] at hx
    exact h.at_ i v x hv hx
  · rw [List.getElem?_append_right hi] at hv
    rw [List.getElem?_append_right (by rw [← h.len]; exact hi), ← h.len] at hx
    exact h2.at_ _ v x hv hx
theorem TxX.one {w : World} {F : Nat → Prop} {l : List (List UInt8)} {us : List Value} (h : TxX w F l us) : ∀ u ∈ us, u.oneCell' = true := fun u hu => by
  obtain ⟨i, hi, rfl⟩ := List.mem_iff_getElem.1 hu
  have hl : i < l.length := by rw [← h.len]; exact hi
  obtain ⟨A, c, e⟩ := (h.at_ i _ _ (List.getElem?_eq_getElem hi) (List.getElem?_eq_getElem hl)).shape
  rw [e]
  rfl
theorem OT.app {w w' : World} {e : TypeId} {base : Nat} {Z : Nat → Prop} {av v' : Value} {l l2 : List (List UInt8)} {us us2 : List Value} (h : OT w e base Z av l us) (hu : TxX w (fun b => base ≤ b ∧ ¬ Z b ∧ av.ownBlock ≠ some b) l2 us2) (hZ : ∀ b, Z b → b < w.heap.size)
    (ho : w'.ownsRow base e 1 v' (l.length + l2.length) (us ++ us2)) (hG : w.grownBy w' av.ownBlock) (hd : v'.ownBlock = av.ownBlock ∨ v'.ownBlock = some w.heap.size) : OT w' e base Z v' (l ++ l2) (us ++ us2) := by
  have hk : ∀ b, b < w.heap.size → base ≤ b ∧ ¬ Z b ∧ av.ownBlock ≠ some b → (base ≤ b ∧ ¬ Z b ∧ v'.ownBlock ≠ some b) ∧ w'.heap[b]? = w.heap[b]? := fun b hb h1 =>
    ⟨⟨h1.1, h1.2.1, fun e2 => hd.elim (fun hd => h1.2.2 (by rw [← hd]; exact e2)) (fun hd => by rw [hd] at e2; injection e2 with e2; omega)⟩, hG.block b hb (fun e2 => h1.2.2 e2.symm)⟩
  refine ⟨by rw [List.length_append]; exact ho, (h.x.keep hk).app (hu.keep hk), fun b e2 hz => ?_⟩
  rcases hd with hd | hd
  · exact h.z b (by rw [← hd]; exact e2) hz
  · rw [hd] at e2; injection e2 with e2; have := hZ b hz; omega
theorem mem_recs : ∀ (ts : List (List UInt8)) (f : Nat) (t : List UInt8), t ∈ ts → t.length ≤ (recsF f ts).length
  | s :: ts, f, t, h => by
    rw [recsF, List.length_append]
    rcases List.mem_cons.1 h with rfl | h
    · have : (recF f t).length = (packed f).length + ((packed t.length).length + t.length) + ((shaF (packed f ++ (packed t.length ++ t))).take 8).length := by unfold recF; simp only [List.length_append]
      omega
    · have := mem_recs ts (f + 1) t h
      omega
end Go.V
namespace Go.Proofs.YtcechioeolokcaaGreatDoor
open Go.RowKit Go.V
set_option maxRecDepth 100000 in
set_option maxHeartbeats 4000000 in
theorem load_e (x2 : Nat) (dv : Value) (pre : ByteArray) (Md F : Nat → Prop) (D : Dk) (c : Nat) (sg : List (List (List UInt8))) (lo f : Nat) (w : World) (hK : KS w) (hx : Blk w x2 57 (lgL dv pre ⟨(digs 0).toArray⟩ 0 1)) (hI : IX w dv Md F D) (hP : PD D c (fileF pre lo f sg)) (hc : c ≤ 100000) (hp : pre.size ≤ 8) (hlo : 1 ≤ lo) (hf1 : 1 ≤ f) (hlk : lo + sg.length ≤ 1000000) (hN : f + sg.flatten.length ≤ 1000000) (hxM : ¬ Md x2) (hxF : ¬ F x2) (hxK : x2 ≠ (0 : Nat)) :
    Calls Tryz.prog 19 #[.pointer (some ⟨x2, 0, none⟩)] w fun e w' => ∃ vt, e = .returned (.tuple #[vt, .int .i64 0]) ∧ Rd w' (fun b => w.heap.size ≤ b) vt (tx sg.flatten) ∧ (sg = [] → Blk w' x2 57 (lgL dv pre ⟨(digs 0).toArray⟩ 0 1)) ∧ Ch (only x2) w w' := by
  obtain ⟨xd, rfl⟩ := hI.ptr
  have hxl := hx.lt
  have hsm := hP.sm (by omega)
  have hseg := segments_e x2 lo sg.length _ pre _ _ _ Md F D w hx hI hsm hP.names hp hlo (by omega) (by omega)
  have Hseg := hid hseg
  clear hseg
  obtain ⟨num0, hnum0⟩ : ∃ n : ByteArray, n = ⟨(digs 0).toArray⟩ := ⟨_, rfl⟩
  rw [← hnum0] at hx ⊢
  clear hnum0
  obtain ⟨Q, hQ⟩ : ∃ Q : World → Prop, Q = fun w' => sg = [] → Blk w' x2 57 (lgL (.pointer (some ⟨xd, 0, none⟩)) pre num0 0 1) := ⟨_, rfl⟩
  have HQ : Hid (∀ w', Q w' ↔ (sg = [] → Blk w' x2 57 (lgL (.pointer (some ⟨xd, 0, none⟩)) pre num0 0 1))) := hid fun w' => by rw [hQ]
  show Calls _ _ _ w fun e w' => ∃ vt, e = .returned (.tuple #[vt, .int .i64 0]) ∧ Rd w' (fun b => w.heap.size ≤ b) vt (tx sg.flatten) ∧ (fun w' => sg = [] → Blk w' x2 57 (lgL (.pointer (some ⟨xd, 0, none⟩)) pre num0 0 1)) w' ∧ Ch (only x2) w w'
  rw [← hQ]
  clear hQ
  go_enter Tryz.func19, Tryz.ntmps19
  go_wp2_with (fail)
  refine Hseg.out.mono ?_
  rintro e w1 ⟨Ao, co, rfl, ho1, hB1⟩
  have hx1 := hx.below hB1
  have hw1 := hB1.size
  obtain ⟨B, hB⟩ : ∃ B, B = w1.heap.size := ⟨_, rfl⟩
  have hC1 : Ch (only x2) w w1 := (Ch.of_below hB1).weaken (fun _ _ e => e.elim)
  clear Hseg hx
  go_wp2
  go_loopw [4, 16] (fun av iv wr => ∃ (i : Nat) (L : List (List UInt8)) (us : List Value) (numi : ByteArray) (szi nxi : Nat), i ≤ sg.length ∧ iv = .int .i64 i ∧ Hid (L = (sg.take i).flatten) ∧ OT wr 33 B nob av L us ∧ Blk wr x2 57 (lgL (.pointer (some ⟨xd, 0, none⟩)) pre numi szi nxi) ∧ Hid (nxi = if L = [] then 1 else f + L.length) ∧ Hid (i = 0 → numi = num0 ∧ szi = 0) ∧ Ch (only x2) w1 wr) (fun _ iv _ => sg.length - (intOf iv).toNat)
  case atStart => exact ⟨0, [], [], num0, 0, 1, Nat.zero_le _, rfl, by show _ = _; simp, OT.nil _ _ _ _, hx1, by show _ = _; simp, hid fun _ => ⟨rfl, rfl⟩, Ch.refl _ _⟩
  case round =>
    clear hx1
    obtain ⟨i, L, us, numi, szi, nxi, hi, rfl, HL, hO, hx, Hnx, Hn0, hC⟩ := hrel
    obtain ⟨Aa, ca, rfl⟩ := own_shape8 hO.own
    have hin1 : IntKind.i64.wrap ((i : Int) + 1) = (i : Int) + 1 := IntWalk.i64_in _ (by omega)
    by_cases hlt : i < sg.length
    · have hIlt : (i : Int) < (sg.length : Int) := by omega
      obtain ⟨s, hs⟩ : ∃ s, sg[i]? = some s := ⟨_, List.getElem?_eq_getElem hlt⟩
      have hLl : L.length + s.length ≤ sg.flatten.length := by
        have e : sg.flatten = (sg.take i).flatten ++ (sg.drop i).flatten := by rw [← List.flatten_append, List.take_append_drop]
        have e2 : (sg.drop i).flatten = s ++ (sg.drop (i + 1)).flatten := by
          rw [List.drop_eq_getElem_cons hlt]
          rw [List.getElem?_eq_getElem hlt] at hs
          injection hs with hs
          rw [hs, List.flatten_cons]
        rw [e, e2, HL.out]
        simp only [List.length_append]
        omega
      have hfa := file_at (p := pre) sg lo f i hs
      rw [← HL.out] at hfa
      obtain ⟨fi, hfi⟩ : ∃ fi, fi = f + L.length := ⟨_, rfl⟩
      rw [← hfi] at hfa
      have hfnd : findF (nowF D) (nameF pre (lo + i)) = some (recsF fi s) := by rw [hP.fs]; exact hfa
      have hrl : (recsF fi s).length ≤ 1000000 := by
        have h1 := find_tot (nowF D) (nameF pre (lo + i))
        rw [hfnd] at h1
        have h1 : (recsF fi s).length ≤ tot (nowF D) := h1
        have := hP.t
        have := hP.r.2
        omega
      have hIX : IX wr (.pointer (some ⟨xd, 0, none⟩)) Md F D := hI.keep (fun b hb e => (hC.block b (by omega) (fun e2 => by have e2 : b = x2 := e2; rw [e2] at e; exact e.elim hxM hxF)).trans (hB1.block b hb)) (by have := hC.size; omega)
      have hor := ho1.ch hC (fun y e e2 => by have e : w.heap.size ≤ y := e; have e2 : y = x2 := e2; omega)
      obtain ⟨g, off, rfl, _, hcl⟩ := strs_el hor (i := i) (s := ⟨(digs (lo + i)).toArray⟩) (by
        unfold bas nums
        rw [List.getElem?_map, List.getElem?_map, List.getElem?_range' hlt]
        simp)
      obtain ⟨nb0, hnb0⟩ : ∃ n : ByteArray, n = ⟨(digs (lo + i)).toArray⟩ := ⟨_, rfl⟩
      rw [← hnb0] at hcl
      have hnmf : nameF pre (lo + i) = dotF pre ++ nb0 := by rw [hnb0]; rfl
      have hn9 : nb0.size ≤ 1000 := by
        rw [hnb0]
        show (digs (lo + i)).toArray.size ≤ 1000
        have : (digs (lo + i)).length ≤ 10 := digs_len 10 _ (by omega)
        simp
        omega
      rw [hnmf] at hfnd
      have hds : (dotF pre).size ≤ 9 := by unfold dotF; rw [ba_size]; show pre.size + 1 ≤ 9; omega
      have hnm : (dotF pre ++ nb0).size ≤ maxLen := by rw [ba_size]; simp [maxLen]; omega
      have Hfnd := hid hfnd
      have Hs := hid hs
      have Hfi := hid hfi
      have HIX := hid (hIX.keep (w' := wr.drew) (fun _ _ _ => rfl) (Nat.le_refl _))
      have HXB : Hid (∀ W, Ch nob wr W → Blk W x2 57 (lgL (.pointer (some ⟨xd, 0, none⟩)) pre numi szi nxi)) := hid fun W hc => hx.ch hc (fun e => e)
      have HX0 : Hid (∀ W, Ch nob wr W → W.cell? ⟨x2, 0, none⟩ = some (.pointer (some ⟨xd, 0, none⟩))) := hid fun W hc => (hx.ch hc (fun e => e)).cellAt 0 _ rfl
      have hCs := hC.size
      clear hfnd hs hfi hfa hnb0 hnmf hIX hor
      go_upto_region 6 with (fail)
      -- LOAD
      refine wp_region_noPanic ?_
      refine wp_region_held_drew (S := Ch nob wr) (by kernel_rfl) ((Ch.refl _ _).drew) (fun hHeld => ?_)
      refine wpAnyH_take (i := 0) (oi := ⟨some 22, _, _, _, _, none⟩) (v := ?_) rfl (by kernel_rfl) (by kernel_rfl) (by kernel_rfl) (fun _ _ _ h => h) (Or.inl ⟨by rfl, ?_⟩) (by assumption) ?_
      rotate_left
      · intro w hSw; go_simp; try with_reducible rfl
      try simp only [Act.put, List.setIfInBounds_toArray, List.set_cons_zero, List.set_cons_succ]
      refine wpAnyH_take (i := 1) (oi := ⟨some 23, _, _, _, _, none⟩) (v := ?_) rfl (by kernel_rfl) (by kernel_rfl) (by kernel_rfl) (fun _ _ _ h => h) (Or.inl ⟨by rfl, ?_⟩) (by assumption) ?_
      rotate_left
      · intro w hSw; go_simp; try with_reducible rfl
      try simp only [Act.put, List.setIfInBounds_toArray, List.set_cons_zero, List.set_cons_succ]
      refine wpAnyH_take (i := 2) (oi := ⟨some 24, _, _, _, _, none⟩) (v := ?_) rfl (by kernel_rfl) (by kernel_rfl) (by kernel_rfl) (fun _ _ _ h => h) (Or.inl ⟨by rfl, ?_⟩) (by assumption) ?_
      rotate_left
      · intro w hSw; go_simp; try with_reducible rfl
      try simp only [Act.put, List.setIfInBounds_toArray, List.set_cons_zero, List.set_cons_succ]
      refine wpAnyH_take (i := 3) (oi := ⟨some 25, _, _, _, _, none⟩) (v := ?_) rfl (by kernel_rfl) (by kernel_rfl) (by kernel_rfl) (fun _ _ _ h => h) (Or.inl ⟨by rfl, ?_⟩) (by assumption) ?_
      rotate_left
      · intro w hSw; have hcw := HX0.out w hSw; go_simp; try with_reducible rfl
      try simp only [Act.put, List.setIfInBounds_toArray, List.set_cons_zero, List.set_cons_succ]
      refine wpAnyH_take (i := 4) (oi := ⟨some 26, _, _, _, _, none⟩) (v := ?_) rfl (by kernel_rfl) (by kernel_rfl) (by kernel_rfl) (fun _ _ _ h => h) (Or.inl ⟨by rfl, ?_⟩) (by assumption) ?_
      rotate_left
      · intro w hSw; go_simp; try with_reducible rfl
      try simp only [Act.put, List.setIfInBounds_toArray, List.set_cons_zero, List.set_cons_succ]
      refine wpAnyH_take (i := 5) (oi := ⟨some 27, _, _, _, _, none⟩) (v := ?_) rfl (by kernel_rfl) (by kernel_rfl) (by kernel_rfl) (fun _ _ _ h => h) (Or.inl ⟨by rfl, ?_⟩) (by assumption) ?_
      rotate_left
      · intro w hSw; go_simp; try with_reducible rfl
      try simp only [Act.put, List.setIfInBounds_toArray, List.set_cons_zero, List.set_cons_succ]
      refine wpAnyH_ready (rs := [6]) (by kernel_rfl) (by simp) ?_
      refine AllReadyH.cons (o := ⟨some 28, _, _, _, _, none⟩) rfl (fun K hK => ?_) AllReadyH.nil
      go_simp
      refine (file_e x2 _ pre numi nb0 szi nxi _ (HXB.out _ hHeld) hp hn9).mono ?_
      rintro e w5 ⟨rfl, rfl⟩
      refine hK.out _ _ (hHeld) (fun hHeld => ?_)
      clear hK K
      try simp only [Act.put, List.setIfInBounds_toArray, List.set_cons_zero, List.set_cons_succ]
      refine wpAnyH_ready (rs := [7]) (by kernel_rfl) (by simp) ?_
      refine AllReadyH.cons (o := ⟨some 29, _, _, _, _, none⟩) rfl (fun K hK => ?_) AllReadyH.nil
      go_simp
      refine (read10_any _ Md F D (dotF pre ++ nb0) _ HIX.out hsm hnm).mono ?_
      rw [Hfnd.out, if_pos (show (some (recsF fi s)).isSome = true from rfl)]
      rintro e w6 ⟨vb, rfl, hvb, hB6⟩
      refine hK.out _ _ (hHeld.belowR hB6) (fun hHeld => ?_)
      clear hK K
      try simp only [Act.put, List.setIfInBounds_toArray, List.set_cons_zero, List.set_cons_succ]
      refine wpAnyH_take (i := 8) (oi := ⟨some 21, _, _, _, _, none⟩) (v := ?_) rfl (by kernel_rfl) (by kernel_rfl) (by kernel_rfl) (fun _ _ _ h => h) (Or.inl ⟨by rfl, ?_⟩) (by assumption) ?_
      rotate_left
      · intro w hSw; go_simp; try with_reducible rfl
      try simp only [Act.put, List.setIfInBounds_toArray, List.set_cons_zero, List.set_cons_succ]
      refine wpAnyH_take (i := 9) (oi := ⟨some 30, _, _, _, _, none⟩) (v := ?_) rfl (by kernel_rfl) (by kernel_rfl) (by kernel_rfl) (fun _ _ _ h => h) (Or.inl ⟨by rfl, ?_⟩) (by assumption) ?_
      rotate_left
      · intro w hSw; go_simp; try with_reducible rfl
      try simp only [Act.put, List.setIfInBounds_toArray, List.set_cons_zero, List.set_cons_succ]
      refine wpAnyH_take (i := 10) (oi := ⟨some 31, _, _, _, _, none⟩) (v := ?_) rfl (by kernel_rfl) (by kernel_rfl) (by kernel_rfl) (fun _ _ _ h => h) (Or.inl ⟨by rfl, ?_⟩) (by assumption) ?_
      rotate_left
      · intro w hSw; go_simp; try with_reducible rfl
      try simp only [Act.put, List.setIfInBounds_toArray, List.set_cons_zero, List.set_cons_succ]
      refine wpAnyH_take (i := 11) (oi := ⟨some 8, _, _, _, _, none⟩) (v := ?_) rfl (by kernel_rfl) (by kernel_rfl) (by kernel_rfl) (fun _ _ _ h => h) (Or.inl ⟨by rfl, ?_⟩) (by assumption) ?_
      rotate_left
      · intro w hSw; go_simp; try with_reducible rfl
      try simp only [Act.put, List.setIfInBounds_toArray, List.set_cons_zero, List.set_cons_succ]
      refine wpAnyH_take (i := 12) (oi := ⟨some 9, _, _, _, _, none⟩) (v := ?_) rfl (by kernel_rfl) (by kernel_rfl) (by kernel_rfl) (fun _ _ _ h => h) (Or.inl ⟨by rfl, ?_⟩) (by assumption) ?_
      rotate_left
      · intro w hSw; go_simp; try with_reducible rfl
      try simp only [Act.put, List.setIfInBounds_toArray, List.set_cons_zero, List.set_cons_succ]
      refine wpAnyH_done (by kernel_rfl) ?_ _
      refine NoPanic.normal ?_
      -- LOAD end
      have hvb : Rd w6 (fun b => wr.heap.size ≤ b) vb (bys (recsF fi s)) := hvb
      obtain ⟨Ab, cb, rfl⟩ := hvb.shape
      have hx6 := hx.ch hHeld (fun e => e)
      have hO6 := hO.ch hHeld (fun _ e => e.elim)
      have hC6 : Ch (only x2) w1 w6 := hC.trans (hHeld.weaken (fun _ _ e => e.elim))
      have K6 : KS w6 := (hK.below hB1).keep (hC6.block _ (hK.below hB1).lt (fun e => hxK e.symm))
      have hs6 := hHeld.size
      have hvb6 := hvb.weak (F' := fun b => wr.heap.size ≤ b ∧ b < w6.heap.size) (fun b hb e => ⟨e, hb⟩)
      obtain ⟨nb, hnb⟩ : ∃ nb, nb = decide (L = []) := ⟨_, rfl⟩
      have hgd := good_e x2 (.pointer (some ⟨xd, 0, none⟩)) pre numi szi nxi fi s nb (.slice Ab (recsF fi s).length cb) _ w6 K6 hx6 hvb6 (fun b e => ⟨e.2, by omega⟩) (by
        by_cases hL : L = []
        · refine .inr (.inr ⟨by rw [hnb, decide_eq_true hL], ?_⟩)
          have := Hfi.out
          omega
        · refine .inr (.inl ?_)
          rw [Hnx.out, if_neg hL, Hfi.out]) (by rw [Hnx.out]; split <;> omega) (by have := Hfi.out; omega) (fun t ht => by have := mem_recs s fi t ht; omega) (by omega) hxK
      have hnb2 : ((L.length : Int) == 0) = nb := by
        rw [hnb]
        cases L with
        | nil => rfl
        | cons a r => rw [decide_eq_false (by simp), beq_eq_false_iff_ne]; simp only [List.length_cons]; omega
      have Hgd := hid hgd
      have Hnb := hid hnb
      clear hgd hnb hvb hvb6 hx hO HXB HX0 HIX hHeld hB6 Hfnd hcl K6
      go_wp2_with (fail)
      refine Hgd.out.mono ?_
      rintro e w7 ⟨vt, rfl, hvt, hx7, hC7⟩
      obtain ⟨At, ct, rfl, hct1, hct2⟩ := hvt.slShape
      obtain ⟨us2, hsrc, htx⟩ := hvt.srcTx
      have hO7 := hO6.ch hC7 (fun b e => .inr (by have e : b = x2 := e; omega))
      have hC7' := hC6.trans hC7
      have hs7 := hC7.size
      have hzO : ∀ b, (Value.slice Aa L.length ca).ownBlock = some b → b < w6.heap.size := fun b e => (hO6.own.lt b e).2
      have htx7 : TxX w7 (fun b => B ≤ b ∧ ¬ nob b ∧ (Value.slice Aa L.length ca).ownBlock ≠ some b) s us2 := htx.keep (fun b _ e => ⟨⟨by have e : w6.heap.size ≤ b := e; omega, fun e => e, fun e2 => by have e : w6.heap.size ≤ b := e; have := hzO b e2; omega⟩, rfl⟩)
      have hbB : B ≤ w7.heap.size := by omega
      clear Hgd hO6 hC6 hx6 hC7 hvt htx hzO
      go_wp2_with (with_reducible refine wp_at 46 rfl ?_)
      refine wp_on ?_
      refine wp_app (.tmp 44) (.tmp 45) slBBH rfl rfl rfl hO7.own rfl hsrc htx7.one (by simp only [maxLen]; omega) (by omega) hbB ?_
      intro v8 w8 ho8 hG8 hd8
      have hO8 := hO7.app htx7 (fun _ e => e.elim) ho8 hG8 hd8
      have hcg : Ch (fun b => (Value.slice Aa L.length ca).ownBlock = some b) w7 w8 := (Ch.refl _ _).grow hG8 (fun k hk => .inl hk)
      have hx8 := hx7.ch hcg (fun e => by have := (hO7.own.lt x2 e).1; omega)
      have hC8 : Ch (only x2) w1 w8 := hC7'.transN hcg (fun y e => .inr (by have := (hO7.own.lt y e).1; omega))
      have HL8 : Hid (L ++ s = (sg.take (i + 1)).flatten) := by show _ = _; rw [List.take_add_one, Hs.out, HL.out]; simp
      obtain ⟨L8, hL8⟩ : ∃ L8, L8 = L ++ s := ⟨_, rfl⟩
      rw [← hL8] at hO8 HL8
      have Hnz : Hid ((if s = [] then nxi else fi + s.length) = if L8 = [] then 1 else f + L8.length) := by
        show _ = _
        rw [hL8, Hnx.out, Hfi.out]
        by_cases h1 : s = []
        · subst h1
          rw [if_pos rfl, List.append_nil]
        · rw [if_neg h1, if_neg (by simp [h1]), List.length_append]; omega
      obtain ⟨nz, hnz⟩ : ∃ nz, nz = if s = [] then nxi else fi + s.length := ⟨_, rfl⟩
      rw [← hnz] at hx8 Hnz
      obtain ⟨A8, c8, rfl⟩ := own_shape8 hO8.own
      clear hL8 hnz hO7 htx7 ho8 hG8 hd8 hcg hx7 hC7' hsrc
      go_wp2_with (first | (refine wp_st 55 (.tmp 52) (.tmp 50) rfl rfl rfl (b := x2) (f := 2) rfl (l := [.string nb0, .int .i64 ((recsF fi s).length : Int)]) rfl hx8 (by simp [lgL]) sizeSeg one_seg ?_; intro w9 hx9 hG9; refine wp_stop ?_))
      have hx9 : Blk w9 x2 57 (lgL (.pointer (some ⟨xd, 0, none⟩)) pre nb0 (recsF fi s).length nz) := hx9
      have hcx : Ch (only x2) w8 w9 := (Ch.refl _ _).grow hG9 (fun k hk => .inl (by injection hk with hk; exact hk.symm))
      have hO9 := hO8.ch hcx (fun b e => .inr (by have e : b = x2 := e; omega))
      have hC9 := hC8.trans hcx
      clear hO8 hx8 hC8 hcx hG9
      refine wp_go ?_
      go_wp2
      go_roundw
      case rel => exact ⟨i + 1, L8, _, nb0, _, nz, by omega, by go_num, HL8, hO9, hx9, Hnz, hid fun h => by omega, hC9⟩
      case measure => simp [intOf]; omega
    · have hi' : i = sg.length := by omega
      subst hi'
      have hIlt : ¬ (sg.length : Int) < (sg.length : Int) := by omega
      have HL' : Hid (L = sg.flatten) := by show _ = _; rw [HL.out, List.take_length]
      have hQ : Q wr := (HQ.out wr).2 (fun h => by
        obtain ⟨rfl, rfl⟩ := Hn0.out (by rw [h]; rfl)
        have hL0 : L = [] := by rw [HL'.out, h]; rfl
        have hn1 : nxi = 1 := by rw [Hnx.out, if_pos hL0]
        rw [hn1] at hx
        exact hx)
      have hR := hO.rd
      rw [HL'.out] at hR
      have Hvr := hid hR
      have Hq := hid hQ
      have hCf : Ch (only x2) w wr := ((Ch.of_below hB1).weaken (fun _ _ e => e.elim)).trans (hC.weaken (fun _ _ e => e))
      clear hQ hR hO hx HQ
      go_wp2
      go_ret2
      refine ⟨_, rfl, ?_, Hq.out, hCf⟩
      have hR := Hvr.out
      rw [HL'.out]
      exact hR.weak (fun b _ e => by have e : B ≤ b := e; omega)
end Go.Proofs.YtcechioeolokcaaGreatDoor
/- HO: layer 11: Open. -/
namespace Go.Proofs.YtcechioeolokcaaGreatDoor
open Go.RowKit Go.V
theorem below_only {w a b : World} {g : Nat} (h : Below w.heap.size w a) (hc : Ch (only g) a b) (hg : w.heap.size ≤ g) : Below w.heap.size w b :=
  ⟨hc.os.trans h.os, hc.tape.trans h.tape, hc.output.trans h.output, Nat.le_trans h.size hc.size, fun k hk => (hc.block k (by have := h.size; omega) (fun hm => by have hm : k = g := hm; omega)).trans (h.block k hk)⟩
theorem op_nil (pre : ByteArray) (w : World) :
    Calls Tryz.prog 9 #[.pointer none, .string pre] w fun e w' => e = .returned (.tuple #[.pointer none, .slice none 0 0, .int .i64 16]) ∧ w' = w := by
  go_enter Tryz.func9, Tryz.ntmps9
  go_wp2
  go_ret3
  exact ⟨rfl, rfl⟩
theorem op_bad (y : Nat) (pre : ByteArray) (w : World) (hp : okP pre = false) (hs : pre.size ≤ maxLen) :
    Calls Tryz.prog 9 #[.pointer (some ⟨y, 0, none⟩), .string pre] w fun e w' => e = .returned (.tuple #[.pointer none, .slice none 0 0, .int .i64 15]) ∧ Below w.heap.size w w' := by
  go_enter Tryz.func9, Tryz.ntmps9
  go_wp2_with (fail)
  refine (isPrefix_e pre _ hs).mono ?_
  rintro e w1 ⟨rfl, hB1⟩
  rw [hp]
  go_wp2
  go_ret3
  exact ⟨rfl, hB1⟩
set_option maxRecDepth 100000 in
set_option maxHeartbeats 2000000 in
theorem op_t (dv : Value) (pre : ByteArray) (Md F : Nat → Prop) (D : Dk) (c : Nat) (sg : List (List (List UInt8))) (lo f : Nat) (w : World) (hK : KS w) (hI : IX w dv Md F D) (hP : PD D c (fileF pre lo f sg)) (hc : c ≤ 100000) (hp : pre.size ≤ 8) (hok : okP pre = true) (hlo : 1 ≤ lo) (hf1 : 1 ≤ f) (hlk : lo + sg.length ≤ 1000000) (hN : f + sg.flatten.length ≤ 1000000) :
    Calls Tryz.prog 9 #[dv, .string pre] w fun e w' => ∃ x vt, w.heap.size ≤ x ∧ e = .returned (.tuple #[.pointer (some ⟨x, 0, none⟩), vt, .int .i64 0]) ∧ Rd w' (fun b => w.heap.size ≤ b) vt (tx sg.flatten) ∧ (sg = [] → Blk w' x 57 (lgL dv pre ⟨(digs 0).toArray⟩ 0 1)) ∧ Below w.heap.size w w' := by
  obtain ⟨xd, rfl⟩ := hI.ptr
  have hKl := hK.lt
  have hps : pre.size ≤ maxLen := by simp [maxLen]; omega
  go_enter Tryz.func9, Tryz.ntmps9
  go_wp2_with (fail)
  refine (isPrefix_e pre _ hps).mono ?_
  rintro e w1 ⟨rfl, hB1⟩
  rw [hok]
  go_wp2_with (fail)
  refine (sclone_any pre _ hps (by omega)).mono ?_
  rintro e w2 ⟨rfl, hB2⟩
  have hB2' := hB1.trans (hB2.mono hB1.size)
  go_wp2_with (fail)
  obtain ⟨z, hz⟩ : ∃ z : ByteArray, z = ⟨#[]⟩ := ⟨_, rfl⟩
  have hz0 : z = ⟨(digs 0).toArray⟩ := by rw [hz, digs_zero]
  rw [← hz]
  have hB3 := hB2'.trans (((Below.refl w2.heap.size w2).alloc (Nat.le_refl _) (.cells (lgL (.pointer (some ⟨xd, 0, none⟩)) pre z 0 1).toArray 57)).mono hB2'.size)
  have hx3 := Blk.new' w2 57 (lgL (.pointer (some ⟨xd, 0, none⟩)) pre z 0 1)
  show Calls _ _ _ (w2.alloc (.cells (lgL (.pointer (some ⟨xd, 0, none⟩)) pre z 0 1).toArray 57)) _
  obtain ⟨w3, hw3⟩ : ∃ W, W = w2.alloc (.cells (lgL (.pointer (some ⟨xd, 0, none⟩)) pre z 0 1).toArray 57) := ⟨_, rfl⟩
  obtain ⟨g, hg⟩ : ∃ g, g = w2.heap.size := ⟨_, rfl⟩
  have hgw : w.heap.size ≤ g := by have := hB2'.size; omega
  rw [← hw3, ← hg] at hx3
  rw [← hw3] at hB3
  rw [← hw3, ← hg]
  rw [hz0] at hx3
  have hbd := hI.bd
  have hld := load_e g (.pointer (some ⟨xd, 0, none⟩)) pre Md F D c sg lo f w3 (hK.below hB3) hx3 (hI.keep (fun b hb _ => hB3.block b hb) hB3.size) hP hc hp hlo hf1 hlk hN (fun e => by have := hbd g (.inl e); omega) (fun e => by have := hbd g (.inr e); omega) (Nat.ne_of_gt (Nat.lt_of_lt_of_le hKl hgw))
  refine hld.mono ?_
  rintro e w4 ⟨vt, rfl, hvt, hx4, hC4⟩
  obtain ⟨At, ct, rfl, _, _⟩ := hvt.slShape
  have hB4 : Below w.heap.size w w4 := below_only hB3 hC4 hgw
  have Hvt := hid (hvt.weak (F' := fun b => w.heap.size ≤ b) (fun b _ e => by have e : w3.heap.size ≤ b := e; have := hB3.size; omega))
  have Hx4 := hid hx4
  clear hld hvt hx4 hC4 hx3
  go_wp2
  go_ret3
  subst hg
  refine ⟨w2.heap.size, _, hgw, rfl, ?_, Hx4.out, hB4⟩
  simpa using Hvt.out
end Go.Proofs.YtcechioeolokcaaGreatDoor
/- GC: layer 11: contracts of package logs. -/
namespace Go.Proofs.YtcechioeolokcaaGreatDoor
open Go.RowKit Go.V
/-- what the program's own variables hold -/
def KX (w : World) : Prop := KS w
theorem KX.below {w w' : World} (h : KX w) (hB : Below w.heap.size w w') : KX w' := KS.below h hB
/-- the log at lv, of prefix pre, on the disk at dv: the disk says D, the log's texts are all, its next number is next, no more than c segments were begun; it may write the blocks of M, and reads those of F beside them -/
def LG (w : World) (lv dv : Value) (pre : ByteArray) (M F : Nat → Prop) (D : Dk) (all : List (List UInt8)) (next c : Nat) : Prop :=
  ∃ (x : Nat) (Md : Nat → Prop) (sg : List (List (List UInt8))) (lo f m : Nat), lv = .pointer (some ⟨x, 0, none⟩) ∧ LT w x dv pre Md F D c sg lo f m next ∧ sg.flatten = all ∧ (∀ b, M b ↔ Md b ∨ b = x) ∧ okP pre = true
theorem LT.bd {w : World} {x : Nat} {dv : Value} {pre : ByteArray} {Md F : Nat → Prop} {D : Dk} {c : Nat} {sg : List (List (List UInt8))} {lo f m nx : Nat} (h : LT w x dv pre Md F D c sg lo f m nx) : ∀ b, (Md b ∨ b = x) ∨ F b → b < w.heap.size := by
  rintro b ((e | e) | e)
  · exact h.s.i.bd b (.inl e)
  · rw [e]; exact h.s.b.lt
  · exact h.s.i.bd b (.inr e)
theorem LG.keep {w w' : World} {lv dv : Value} {pre : ByteArray} {M F : Nat → Prop} {D : Dk} {all : List (List UInt8)} {next c : Nat} (h : LG w lv dv pre M F D all next c) (hk : ∀ b, b < w.heap.size → M b ∨ F b → w'.heap[b]? = w.heap[b]?) (hs : w.heap.size ≤ w'.heap.size) : LG w' lv dv pre M F D all next c := by
  obtain ⟨x, Md, sg, lo, f, m, e, hT, hf, hM, ho⟩ := h
  exact ⟨x, Md, sg, lo, f, m, e, hT.keep (fun b hb e => hk b hb (by
    rcases e with e | e | e
    · exact .inl ((hM b).2 (.inr e))
    · exact .inl ((hM b).2 (.inl e))
    · exact .inr e)) hs, hf, hM, ho⟩
theorem LG.bd {w : World} {lv dv : Value} {pre : ByteArray} {M F : Nat → Prop} {D : Dk} {all : List (List UInt8)} {next c : Nat} (h : LG w lv dv pre M F D all next c) : ∀ b, M b ∨ F b → b < w.heap.size := by
  obtain ⟨x, Md, sg, lo, f, m, e, hT, hf, hM, ho⟩ := h
  exact fun b e => hT.bd b (e.imp (hM b).1 id)
theorem LG.ptr {w : World} {lv dv : Value} {pre : ByteArray} {M F : Nat → Prop} {D : Dk} {all : List (List UInt8)} {next c : Nat} (h : LG w lv dv pre M F D all next c) : ∃ x y, lv = .pointer (some ⟨x, 0, none⟩) ∧ dv = .pointer (some ⟨y, 0, none⟩) := by
  obtain ⟨x, Md, sg, lo, f, m, e, hT, _⟩ := h
  obtain ⟨y, e2⟩ := hT.s.i.ptr
  exact ⟨x, y, e, e2⟩
theorem LG.mono {w : World} {lv dv : Value} {pre : ByteArray} {M F : Nat → Prop} {D : Dk} {all : List (List UInt8)} {next c c' : Nat} (h : LG w lv dv pre M F D all next c) (hc : c ≤ c') : LG w lv dv pre M F D all next c' := by
  obtain ⟨x, Md, sg, lo, f, m, e, hT, hf, hM, ho⟩ := h
  exact ⟨x, Md, sg, lo, f, m, e, hT.mono hc, hf, hM, ho⟩
theorem LG.ix {w : World} {lv dv : Value} {pre : ByteArray} {M F : Nat → Prop} {D : Dk} {all : List (List UInt8)} {next c : Nat} (h : LG w lv dv pre M F D all next c) (hc : c ≤ 200000) : ∃ Md Fd, IX w dv Md Fd D ∧ DkSm D := by
  obtain ⟨x, Md, sg, lo, f, m, e, hT, hf, hM, ho⟩ := h
  exact ⟨Md, F, hT.s.i, hT.d.sm hc⟩
/-- what a call leaves of what may be written and read -/
def LGi (w w' : World) (M F M' F' : Nat → Prop) : Prop := Ch M w w' ∧ (∀ b, M' b → M b ∨ w.heap.size ≤ b) ∧ (∀ b, F' b → F b ∨ M b ∨ w.heap.size ≤ b)
theorem Fr.lgi {w w' : World} {x : Nat} {M Md F Md' F' : Nat → Prop} (h : Fr w w' x Md F Md' F') (hM : ∀ b, M b ↔ Md b ∨ b = x) : LGi w w' M F (fun b => Md' b ∨ b = x) F' := by
  obtain ⟨hC, h1, h2⟩ := h
  refine ⟨hC.weaken (fun b _ e => (hM b).2 e), fun b e => ?_, fun b e => ?_⟩
  · rcases e with e | e
    · exact (h1 b e).imp (fun e => (hM b).2 (.inl e)) id
    · exact .inl ((hM b).2 (.inr e))
  · rcases h2 b e with e | e | e
    · exact .inl e
    · exact .inr (.inl ((hM b).2 (.inl e)))
    · exact .inr (.inr e)
theorem open11_new (dv : Value) (pre : ByteArray) (M F : Nat → Prop) (room : Int) (w : World) (hK : KX w) (h : IX w dv M F (d0L room)) (hr : 0 ≤ room ∧ room ≤ 1000000) (hp : okP pre = true) (hMK : ¬ M (0 : Nat)) :
    Calls Tryz.prog 9 #[dv, .string pre] w fun e w' => ∃ lv vr M' F', e = .returned (.tuple #[lv, vr, .int .i64 0]) ∧ Rd w' (fun b => w.heap.size ≤ b) vr (tx []) ∧ LG w' lv dv pre M' F' (d0L room) [] 1 0 ∧ LGi w w' M F M' F' := by
  have hp8 : pre.size ≤ 8 := by
    unfold okP at hp
    simp only [Bool.and_eq_true, decide_eq_true_eq] at hp
    exact hp.1.2
  have hP := PD.start room hr 0
  have hKl := KS.lt hK
  have hbd := h.bd
  refine (op_t dv pre M F (d0L room) 0 [] 1 1 w hK h hP (by omega) hp8 hp (by omega) (by omega) (by simp) (by simp)).mono ?_
  rintro e w1 ⟨x, vt, hxw, rfl, hvt, hx, hB⟩
  refine ⟨_, vt, fun b => M b ∨ b = x, F, rfl, hvt, ⟨x, M, [], 1, 1, 0, rfl, ⟨⟨hx rfl, h.keep (fun b hb _ => hB.block b hb) hB.size, fun e => by have := hbd x (.inl e); omega, fun e => by have := hbd x (.inr e); omega, hMK, Nat.ne_of_gt (Nat.lt_of_lt_of_le hKl hxw)⟩, hP, rfl, by omega, by omega, rfl, by omega, hp8, fun _ => rfl⟩, rfl, fun _ => Iff.rfl, hp⟩, ⟨(Ch.of_below hB).weaken (fun _ _ e => e.elim), fun b e => e.imp id (fun e => by rw [e]; exact hxw), fun b e => .inl e⟩⟩
theorem open11_bad (dv : Value) (pre : ByteArray) (M F : Nat → Prop) (D : Dk) (w : World) (h : IX w dv M F D) (hp : okP pre = false) (hs : pre.size ≤ maxLen) :
    Calls Tryz.prog 9 #[dv, .string pre] w fun e w' => ∃ A k c, e = .returned (.tuple #[.pointer none, .slice A k c, .int .i64 15]) ∧ Below w.heap.size w w' := by
  obtain ⟨y, rfl⟩ := h.ptr
  refine (op_bad y pre w hp hs).mono ?_
  rintro e w1 ⟨rfl, hB⟩
  exact ⟨none, 0, 0, rfl, hB⟩
theorem open11_nil (pre : ByteArray) (w : World) :
    Calls Tryz.prog 9 #[.pointer none, .string pre] w fun e w' => ∃ A k c, e = .returned (.tuple #[.pointer none, .slice A k c, .int .i64 16]) ∧ Below w.heap.size w w' := by
  refine (op_nil pre w).mono ?_
  rintro e w1 ⟨rfl, rfl⟩
  exact ⟨none, 0, 0, rfl, Below.refl _ _⟩
theorem open11_any (lv dv : Value) (pre : ByteArray) (M F : Nat → Prop) (D : Dk) (all : List (List UInt8)) (next c : Nat) (w : World) (hK : KX w) (h : LG w lv dv pre M F D all next c) (hn : next ≤ 1000000 ∧ c ≤ 100000) :
    Calls Tryz.prog 9 #[dv, .string pre] w fun e w' => ∃ x vr, e = .returned (.tuple #[.pointer (some ⟨x, 0, none⟩), vr, .int .i64 0]) ∧ Rd w' (fun b => w.heap.size ≤ b) vr (tx all) ∧ Ch M w w' := by
  obtain ⟨x, Md, sg, lo, f, m, rfl, hT, rfl, hM, ho⟩ := h
  have h1 := hT.lm
  have h2 := hT.mc
  have h3 := hT.n
  refine (op_t dv pre Md F D c sg lo f w hK hT.s.i hT.d hn.2 hT.pz ho hT.l1 hT.f1 (by omega) (by omega)).mono ?_
  rintro e w1 ⟨x2, vt, _, rfl, hvt, _, hB⟩
  exact ⟨x2, vt, rfl, hvt, (Ch.of_below hB).weaken (fun _ _ e => e.elim)⟩
theorem append11_any (lv dv : Value) (pre : ByteArray) (M F G : Nat → Prop) (D : Dk) (all : List (List UInt8)) (next c : Nat) (rec_ : List UInt8) (va : Value) (w : World) (hK : KX w) (h : LG w lv dv pre M F D all next c) (hn : next ≤ 1000000 ∧ c ≤ 100000) (hva : Rd w G va (bys rec_)) (hl : rec_.length ≤ 1000) (hG : ∀ b, G b → b < w.heap.size) :
    Calls Tryz.prog 10 #[lv, va] w fun e w' => ∃ (E : Int) (M' F' : Nat → Prop) (D' : Dk), e = .returned (.int .i64 E) ∧ LGi w w' M F M' F' ∧ ((E = 0 ∧ LG w' lv dv pre M' F' D' (all ++ [rec_]) (next + 1) (c + 1)) ∨ (E = 4 ∧ LG w' lv dv pre M' F' D' all next (c + 1))) := by
  obtain ⟨x, Md, sg, lo, f, m, rfl, hT, rfl, hM, ho⟩ := h
  refine (append_t x m dv pre Md F G D c sg lo f next rec_ va w hK hT hn.2 hn.1 hl hva hG).mono ?_
  rintro e w1 ⟨E, M', F', D', sg', m', rfl, hFr, hE⟩
  rcases hE with ⟨rfl, hT', hg⟩ | ⟨rfl, hT'⟩
  · exact ⟨0, _, F', D', rfl, hFr.lgi hM, .inl ⟨rfl, x, M', sg', lo, f, m', rfl, hT', hg.flat, fun _ => Iff.rfl, ho⟩⟩
  · exact ⟨4, _, F', D, rfl, hFr.lgi hM, .inr ⟨rfl, x, M', sg, lo, f, m, rfl, hT'.mono (by omega), rfl, fun _ => Iff.rfl, ho⟩⟩
/-- the first record of a log on a new disk with room -/
theorem append11_first (lv dv : Value) (pre : ByteArray) (M F G : Nat → Prop) (room : Int) (c : Nat) (rec_ : List UInt8) (va : Value) (w : World) (hK : KX w) (h : LG w lv dv pre M F (d0L room) [] 1 c) (hc : c ≤ 100000) (hva : Rd w G va (bys rec_)) (hG : ∀ b, G b → b < w.heap.size) (hl : rec_.length ≤ 20) (hr : 100 ≤ room) :
    Calls Tryz.prog 10 #[lv, va] w fun e w' => ∃ (M' F' : Nat → Prop) (D' : Dk), e = .returned (.int .i64 0) ∧ LGi w w' M F M' F' ∧ LG w' lv dv pre M' F' D' [rec_] 2 (c + 1) ∧ findF (nowF D') (pre ++ ⟨#[46, 49]⟩) = some (recF 1 rec_) := by
  obtain ⟨x, Md, sg, lo, f, m, rfl, hT, hfl, hM, ho⟩ := h
  have hsg : sg = [] := by
    cases hs : sg with
    | nil => rfl
    | cons s r =>
      have := hT.d.fs (nameF pre lo)
      rw [hs, fileF, if_pos rfl] at this
      cases this
  subst hsg
  have hm := hT.m0 rfl
  have hlo : lo = 1 := by have := hT.lm; simp at this; omega
  have hf : f = 1 := by have := hT.n; simp at this; omega
  subst hm hlo hf
  refine (append_t2 x 0 dv pre Md F G (d0L room) c [] 1 1 1 rec_ va w hK hT hc (by omega) (by omega) hva hG).mono ?_
  rintro e w1 ⟨E, M', F', D', sg', m', rfl, hFr, hE⟩
  rcases hE with ⟨rfl, hT', hg⟩ | ⟨rfl, _, hrm⟩
  · have hg2 : sg' = [[rec_]] := by
      rcases hg with hg | ⟨a, s, h1, _⟩
      · simpa using hg
      · simp at h1
    subst hg2
    refine ⟨_, F', D', rfl, hFr.lgi hM, ⟨x, M', [[rec_]], 1, 1, m', rfl, hT', rfl, fun _ => Iff.rfl, ho⟩, ?_⟩
    have hn1 : pre ++ (⟨#[46, 49]⟩ : ByteArray) = nameF pre 1 := by
      unfold nameF dotF
      rw [ByteArray.append_assoc, digs_pos (by omega), digs_zero]
      rfl
    rw [hn1, hT'.d.fs, fileF, if_pos rfl]
    simp [recsF]
  · exfalso
    have h1 : (recF 1 rec_).length ≤ 100 := by
      have := psz_bd 1
      have := psz_bd rec_.length
      rw [len_rec]
      omega
    have h2 : tot (nowF (d0L room)) = 0 := rfl
    have h3 : (d0L room).room = room := rfl
    rw [h2, h3] at hrm
    omega
theorem cut11_any (lv dv : Value) (pre : ByteArray) (M F G : Nat → Prop) (D : Dk) (all keep : List (List UInt8)) (next c : Nat) (vk : Value) (w : World) (hK : KX w) (h : LG w lv dv pre M F D all next c) (hn : next ≤ 500000 ∧ c ≤ 50000) (hk : Rd w G vk (tx keep)) (hG : ∀ b, G b → ¬ M b) (hl : keep.length ≤ 20 ∧ ∀ t ∈ keep, t.length ≤ 1000) :
    Calls Tryz.prog 12 #[lv, vk] w fun e w' => ∃ (E : Int) (M' F' : Nat → Prop) (D' : Dk), e = .returned (.int .i64 E) ∧ LGi w w' M F M' F' ∧ (E = 0 → LG w' lv dv pre M' F' D' keep (next + keep.length) (c + 1 + keep.length)) := by
  obtain ⟨x, Md, sg, lo, f, m, rfl, hT, rfl, hM, ho⟩ := h
  refine (cut_t x m dv pre Md F G D c sg lo f next keep vk w hK hT (by omega) (by omega) hk (fun y e => ⟨fun e2 => hG y e ((hM y).2 (.inl e2)), fun e2 => hG y e ((hM y).2 (.inr e2))⟩) hl.2).mono ?_
  rintro e w1 ⟨E, M', F', rfl, hFr, hE⟩
  by_cases h0 : E = 0
  · obtain ⟨D', m', b, lo', hT', hb⟩ := hE h0
    exact ⟨E, _, F', D', rfl, hFr.lgi hM, fun _ => ⟨x, M', b, lo', next, m', rfl, hT', hb, fun _ => Iff.rfl, ho⟩⟩
  · exact ⟨E, _, F', D, rfl, hFr.lgi hM, fun h => absurd h h0⟩
theorem sync11_any (lv dv : Value) (pre : ByteArray) (M F : Nat → Prop) (D : Dk) (all : List (List UInt8)) (next c : Nat) (w : World) (hK : KX w) (h : LG w lv dv pre M F D all next c) (hc : c ≤ 200000) :
    Calls Tryz.prog 13 #[lv] w fun e w' => ∃ (M' F' : Nat → Prop) (D' : Dk), e = .returned (.tuple #[]) ∧ LGi w w' M F M' F' ∧ LG w' lv dv pre M' F' D' all next c := by
  obtain ⟨x, Md, sg, lo, f, m, rfl, hT, rfl, hM, ho⟩ := h
  refine (sync_t x m dv pre Md F D c sg lo f next w hK hT hc).mono ?_
  rintro e w1 ⟨M', F', D', rfl, hFr, hT'⟩
  exact ⟨_, F', D', rfl, hFr.lgi hM, x, M', sg, lo, f, m, rfl, hT', rfl, fun _ => Iff.rfl, ho⟩
theorem next11_any (lv dv : Value) (pre : ByteArray) (M F : Nat → Prop) (D : Dk) (all : List (List UInt8)) (next c : Nat) (w : World) (h : LG w lv dv pre M F D all next c) :
    Calls Tryz.prog 14 #[lv] w fun e w' => e = .returned (.int .u64 (next : Int)) ∧ Below w.heap.size w w' := by
  obtain ⟨x, Md, sg, lo, f, m, rfl, hT, rfl, hM, ho⟩ := h
  refine (next_e x dv pre _ _ next w hT.s.b).mono ?_
  rintro e w1 ⟨rfl, rfl⟩
  exact ⟨rfl, Below.refl _ _⟩
theorem append11_nil (A : Option Addr) (k c : Nat) (w : World) : Calls Tryz.prog 10 #[.pointer none, .slice A k c] w fun e w' => e = .returned (.int .i64 16) ∧ Below w.heap.size w w' := by
  go_enter Tryz.func10, Tryz.ntmps10
  go_wp2
  go_ret
  exact ⟨rfl, (Below.refl _ _)⟩
theorem cut11_nil (w : World) : Calls Tryz.prog 12 #[.pointer none, .slice none 0 0] w fun e w' => e = .returned (.int .i64 16) ∧ Below w.heap.size w w' := by
  go_enter Tryz.func12, Tryz.ntmps12
  go_wp2
  go_ret
  exact ⟨rfl, (Below.refl _ _)⟩
theorem sync11_nil (w : World) : Calls Tryz.prog 13 #[.pointer none] w fun e w' => e = .returned (.tuple #[]) ∧ Below w.heap.size w w' := by
  go_enter Tryz.func13, Tryz.ntmps13
  go_wp2
  go_end0
  exact ⟨rfl, (Below.refl _ _)⟩
theorem next11_nil (w : World) : Calls Tryz.prog 14 #[.pointer none] w fun e w' => e = .returned (.int .u64 0) ∧ Below w.heap.size w w' := by
  go_enter Tryz.func14, Tryz.ntmps14
  go_wp2
  go_ret
  exact ⟨rfl, (Below.refl _ _)⟩
end Go.Proofs.YtcechioeolokcaaGreatDoor
