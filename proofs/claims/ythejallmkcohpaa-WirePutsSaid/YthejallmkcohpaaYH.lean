/- YH: layer 8: contracts of wire: read (panic, recover, defer), Get. -/
import Derived.Test.YthejallmkcohpaaYG
import Derived.Defers
import Derived.Recover
import Derived.Laws.Pointers
namespace Go.Proofs.Ythejallmkcohpaa
open Go.RowKit Go.V
theorem assertE (k : Int) (W : World) : (Instr.typeAssert (.iface 31 (.int .i64 k)) 20 31 false).run Try.prog W = .ok (.int .i64 k) W := by kernel_rfl
theorem catch_p (ge : Nat) (k : Nat) (w : World) (hb : Blk w ge 31 [.int .i64 0]) :
    CallsD Try.prog 31 #[.pointer (some ⟨ge, 0, none⟩)] (.panicking [errP k]) w fun e u' w' =>
      e = .returned (.tuple #[]) ∧ u' = .panicking [{ v := .iface 31 (.int .i64 (k : Int)), recovered := true }] ∧ w' = w.setCell ⟨ge, 0, none⟩ (.int .i64 (k : Int)) := by
  have hc := hb.cellAt 0 _ rfl
  have hz := hb.frz 0
  refine callsD_of_wpS Try.func31 rfl fun c₀ cs hu => ?_
  unfold errP at hu
  apply wpS_seq
  apply wpS_region
  simp [wpOpsS, go_sem, recoverD, hu, Try.ntmps31, Exit.thenS]
  apply wpS_seq
  apply wpS_region
  simp [wpOpsS, go_sem, Exit.thenS]
  refine wpS_cond (t := true) (by simp [Act.eval, Array.replicate]) ?_
  simp only [if_true]
  apply wpS_region
  simp [wpOpsS, go_sem, assertE, hc, hz, bodyPostS, results, Try.results31]
theorem catch_r (ge : Nat) (w : World) :
    CallsD Try.prog 31 #[.pointer (some ⟨ge, 0, none⟩)] .returning w fun e u' w' =>
      e = .returned (.tuple #[]) ∧ u' = .returning ∧ w' = w := by
  refine callsD_of_wpS Try.func31 rfl fun c₀ cs hu => ?_
  apply wpS_seq
  apply wpS_region
  simp [wpOpsS, go_sem, recoverD, hu, Try.ntmps31, Exit.thenS]
  apply wpS_seq
  apply wpS_region
  simp [wpOpsS, go_sem, Exit.thenS]
  refine wpS_cond (t := false) (by simp [Act.eval, Array.replicate]) ?_
  simp only [Bool.false_eq_true, if_false]
  refine wpS_of_wp (wp_skip ?_)
  cases c₀
  simp_all [bodyPostS, results, Try.results31]
theorem rdM_h {X : List UInt8} {m : Mg} (h : rdM X = .ok m) : m.h.length = 32 := by
  unfold rdM at h
  cases h1 : fldR szs8 0 X with
  | error e => rw [h1] at h; cases h
  | ok xs =>
    have hl := fldR_len _ _ _ _ h1
    rw [h1] at h
    dsimp only at h
    cases h2 : textR 65536 (X.drop 40) with
    | error e => rw [h2] at h; cases h
    | ok r =>
      obtain ⟨n, z⟩ := r
      rw [h2] at h
      dsimp only at h
      cases h3 : cntR 16 (readPk (X.drop (40 + (z + n)))) with
      | error e => rw [h3] at h; cases h
      | ok r =>
        obtain ⟨c, y⟩ := r
        rw [h3] at h
        dsimp only at h
        cases h4 : prtR c (40 + (z + n) + y) X with
        | error e => rw [h4] at h; cases h
        | ok r =>
          obtain ⟨ts, k⟩ := r
          rw [h4] at h
          dsimp only at h
          split at h
          · cases h
          · split at h
            · injection h with h
              rw [← h]
              simp [mkM, hl, szs8]
            · cases h
theorem sizeE8 : (Try.prog.info? 31).map (·.size) = some 1 := by kernel_rfl
theorem leaves_rd {R : Ending → World → Prop} {tmps : Array Value} {w : World} {g2 g3 : Nat} {l : List Value} {k : Int} (h2 : tmps[2]? = some (.pointer (some ⟨g2, 0, none⟩))) (h3 : tmps[3]? = some (.pointer (some ⟨g3, 0, none⟩)))
    (hl : Blk w g2 27 l) (hi : l.length = 39) (he : Blk w g3 31 [.int .i64 k]) (h : R (.returned (.tuple #[.agg l.toArray, .int .i64 k])) w) : Leaves Try.prog Try.f20 tmps R [] .returning w := by
  refine ⟨.tuple #[.agg l.toArray, .int .i64 k], ?_, h⟩
  have hc := he.cellAt 0 _ rfl
  have hld := run_loadVar_mid (P := Try.prog) w g2 0 27 l _ hl.whole Try.underlying27 rfl (by rw [hi]; exact sizeM)
  have hle : (loadVar 31 ⟨g3, 0, none⟩).run Try.prog w = .ok (.int .i64 k) w := by simp [go_sem, hc]
  simp [results, Try.results20, h2, h3, asAddr, hld, hle]
theorem one_zM8 : ∀ v ∈ zM, v.oneCell' = true := by
  intro v hv
  simp only [zM, zs8, List.mem_cons, List.mem_append, List.mem_replicate] at hv
  rcases hv with rfl | rfl | rfl | rfl | rfl | ⟨_, rfl⟩ | rfl | rfl | hv
  all_goals first | rfl | cases hv
/-- what read and Get leave -/
def ReadP (w : World) (r : Except Nat Mg) (e : Ending) (w' : World) : Prop := match r with
  | .ok m => (∃ ub up, e = .returned (.tuple #[m.val ub up, .int .i64 0]) ∧ Rd w' (fun b => w.heap.size ≤ b) ub (bys m.b) ∧ Rd w' (fun b => w.heap.size ≤ b) up (tx m.ps)) ∧ Below w.heap.size w w'
  | .error k => e = .returned (.tuple #[.agg zM.toArray, .int .i64 (k : Int)]) ∧ Below w.heap.size w w'
set_option maxRecDepth 100000 in
set_option maxHeartbeats 2000000 in
theorem read_any (v : Value) (X : List UInt8) (F : Nat → Prop) (w : World) (hv : Rd w F v (bys X)) (hX : X.length ≤ 100000) :
    Calls Try.prog 20 #[v] w (ReadP w (rdM X)) := by
  obtain ⟨A, c, rfl⟩ := hv.shape
  have hmf : ∀ (fn : Fn) (first cap : Array Value) (w : World), (Instr.makeFunc fn first cap).run Try.prog w = .ok (.func fn first cap) w := fun _ _ _ _ => rfl
  have hal1 : Below w.heap.size w (w.alloc (.cells zM.toArray 27)) := (Below.refl _ _).alloc (Nat.le_refl _) _
  have hz2 := Blk.new' w 27 zM
  have hv := hv.below hal1
  go_enter_defers Try.func20, Try.ntmps20
  go_wp2_with (refine wp_new 27 rfl rfl zeroM ?_; refine wp_stop ?_)
  obtain ⟨wa, hwa⟩ : ∃ x, x = w.alloc (.cells zM.toArray 27) := ⟨_, rfl⟩
  rw [← hwa] at hz2 hv hal1 ⊢
  clear hwa
  obtain ⟨g2, hg2⟩ : ∃ g, g = w.heap.size := ⟨_, rfl⟩
  rw [← hg2] at hz2 ⊢
  have hgw2 : w.heap.size ≤ g2 := by omega
  clear hg2
  have hal2 : Below wa.heap.size wa (wa.alloc (.cells #[.int .i64 0] 31)) := (Below.refl _ _).alloc (Nat.le_refl _) _
  have he3 := Blk.new' wa 31 [.int .i64 0]
  have hg23 : g2 < wa.heap.size := hz2.lt
  have hv := hv.below hal2
  have hz2 := hz2.below hal2
  have hB := hal1.trans (hal2.mono hal1.size)
  have hsa := hal1.size
  clear hal1 hal2
  refine wp_go ?_
  go_wp2_with (fail)
  obtain ⟨w0, hw0⟩ : ∃ x, x = wa.alloc (.cells #[.int .i64 0] 31) := ⟨_, rfl⟩
  rw [← hw0] at hz2 hv hB he3 ⊢
  obtain ⟨g3, hg3⟩ : ∃ g, g = wa.heap.size := ⟨_, rfl⟩
  rw [← hg3] at he3 hg23 ⊢
  have hgw3 : w.heap.size ≤ g3 := by omega
  clear hg3 hw0
  refine (new_any _ X F _ hv (by omega)).mono ?_
  rintro e w1 ⟨p, rfl, hp, hr1, hB1⟩
  have hwh := whole_any p _ X w1 hr1 (by omega)
  unfold rp at hwh
  have Hwh := hid hwh
  have hg2l := hz2.lt
  have hg3l := he3.lt
  have hz2 := hz2.below hB1
  have he3 := he3.below hB1
  have hB := hB.trans (hB1.mono hB.size)
  have hpw : w.heap.size ≤ p := by omega
  clear hwh hr1 hB1 hv
  cases hrd : rdM X with
  | error k =>
    have HW : Hid (∀ e w', WholeP p w1 (rdM X) e w' → e = .panicked [errP k] ∧ Ch (only p) w1 w') := fun e w' h => by
      rw [hrd] at h; exact h
    have HRD := hid hrd
    clear hrd
    go_wp2_with (fail)
    refine Hwh.out.mono ?_
    rintro e w2 h2
    obtain ⟨rfl, hC2⟩ := HW.out _ _ h2
    have hz2 := hz2.ch hC2 (by intro h; have h' : g2 = p := h; omega)
    have he3 := he3.ch hC2 (by intro h; have h' : g3 = p := h; omega)
    have hB2 := Ch.below_of hB hC2 (fun k hk => by have : k = p := hk; omega) hB.size
    show Leaves _ _ _ _ _ _ _
    refine leaves_cons (f := 31) (args := #[.pointer (some ⟨g3, 0, none⟩)]) (by simp) (by simp [go_sem]) ?_
    refine (catch_p g3 k _ he3).mono ?_
    rintro e u' w3 ⟨rfl, rfl, rfl⟩
    have he4 : Blk (w2.setCell ⟨g3, 0, none⟩ (.int .i64 (k : Int))) g3 31 [.int .i64 (k : Int)] := heap_set_same _ _ _ _ _ _ he3
    have hz4 : Blk (w2.setCell ⟨g3, 0, none⟩ (.int .i64 (k : Int))) g2 27 zM := hz2.keep (Below.heap_setCell _ _ _ _ (by show g2 ≠ g3; omega))
    have hB4 := Ch.below_of hB2 (Ch.set (p := g3) (i := 0) (.int .i64 (k : Int))) (fun k hk => by have : k = g3 := hk; omega) hB2.size
    exact leaves_rd rfl rfl hz4 len_zM he4 (by show ReadP w (rdM X) _ _; rw [HRD.out]; exact ⟨rfl, hB4⟩)
  | ok m =>
    have hmh := rdM_h hrd
    have HW : Hid (∀ e w', WholeP p w1 (rdM X) e w' → (∃ ub up, e = .returned (m.val ub up) ∧ Rd w' (fun b => w1.heap.size ≤ b) ub (bys m.b) ∧ Rd w' (fun b => w1.heap.size ≤ b) up (tx m.ps)) ∧ Ch (only p) w1 w') := fun e w' h => by
      rw [hrd] at h; exact h
    have HRD := hid hrd
    clear hrd
    go_wp2_with (fail)
    refine Hwh.out.mono ?_
    rintro e w2 h2
    obtain ⟨⟨ub, up, rfl, hub, hup⟩, hC2⟩ := HW.out _ _ h2
    clear HW Hwh h2
    obtain ⟨AB, cb, rfl⟩ := hub.shape
    obtain ⟨AP, cpp, rfl, _, _⟩ := hup.slShape
    unfold Mg.val
    have hll := len_mg hmh (.slice AB m.b.length cb) (.slice AP m.ps.length cpp)
    have hl1 : ∀ v ∈ m.l (.slice AB m.b.length cb) (.slice AP m.ps.length cpp), v.oneCell' = true := one_mg
    obtain ⟨l, hl⟩ : ∃ l, l = m.l (.slice AB m.b.length cb) (.slice AP m.ps.length cpp) := ⟨_, rfl⟩
    rw [← hl] at hll hl1 ⊢
    have Hl := hid hl
    have Hll := hid hll
    have Hl1 := hid hl1
    clear hl hll hl1
    have hg2m := hz2.lt
    have hg3m := he3.lt
    have hz2 := hz2.ch hC2 (by intro h; have h' : g2 = p := h; omega)
    have he3 := he3.ch hC2 (by intro h; have h' : g3 = p := h; omega)
    have hB2 := Ch.below_of hB hC2 (fun k hk => by have : k = p := hk; omega) hB.size
    have hsz := hB.size
    clear hC2 hB
    go_wp2_with (refine wp_st 27 (.tmp 2) (.tmp 7) rfl rfl rfl (f := 0) rfl (l := l) rfl hz2 (by rw [len_zM, Hll.out]; omega) (by rw [Hll.out]; exact sizeM) Hl1.out ?_; intro w3 hz3 hG3; refine wp_stop ?_)
    rw [set_all _ _ (by rw [len_zM, Hll.out])] at hz3
    have he4 := he3.keep (hG3.block _ he3.lt (by intro h; injection h with h; omega))
    have hub4 := hub.keep (F' := fun b => w1.heap.size ≤ b) (fun b hb hF => ⟨hF, hG3.block b hb (by intro h; injection h with h; have h' : w1.heap.size ≤ b := hF; omega)⟩)
    have hup4 := hup.keep (F' := fun b => w1.heap.size ≤ b) (fun b hb hF => ⟨hF, hG3.block b hb (by intro h; injection h with h; have h' : w1.heap.size ≤ b := hF; omega)⟩)
    have hB4 := hB2.grown hG3 hB2.size (fun k hk => by injection hk with hk; omega)
    clear hz2 he3 hub hup hB2 hG3
    refine wp_go ?_
    go_wp2_with (refine wp_st1 31 (.tmp 3) (.const (.int .i64 0)) rfl rfl rfl (f := 0) rfl (v := .int .i64 0) rfl he4 (by simp) sizeE8 rfl rfl ?_; intro w5 he5 hG5; refine wp_stop ?_)
    have he5 : Blk w5 g3 31 [.int .i64 0] := he5
    have hz5 := hz3.keep (hG5.block _ hz3.lt (by intro h; injection h with h; omega))
    have hub5 := hub4.keep (F' := fun b => w.heap.size ≤ b) (fun b hb hF => ⟨by have h' : w1.heap.size ≤ b := hF; omega, hG5.block b hb (by intro h; injection h with h; have h' : w1.heap.size ≤ b := hF; omega)⟩)
    have hup5 := hup4.keep (F' := fun b => w.heap.size ≤ b) (fun b hb hF => ⟨by have h' : w1.heap.size ≤ b := hF; omega, hG5.block b hb (by intro h; injection h with h; have h' : w1.heap.size ≤ b := hF; omega)⟩)
    have hB5 := hB4.grown hG5 hB4.size (fun k hk => by injection hk with hk; omega)
    refine wp_go ?_
    go_wp2
    refine leaves_cons (f := 31) (args := #[.pointer (some ⟨g3, 0, none⟩)]) (by simp) (by simp [go_sem]) ?_
    refine (catch_r g3 _).mono ?_
    rintro e u' w6 ⟨rfl, rfl, rfl⟩
    exact leaves_rd rfl rfl hz5 Hll.out he5 (by show ReadP w (rdM X) _ _; rw [HRD.out]; exact ⟨⟨_, _, by unfold Mg.val; rw [← Hl.out], hub5, hup5⟩, hB5⟩)
set_option maxRecDepth 100000 in
set_option maxHeartbeats 2000000 in
/-- Get over any bytes that are not too many -/
theorem get8g_any (v : Value) (X : List UInt8) (F : Nat → Prop) (w : World) (hv : Rd w F v (bys X)) (hX : X.length ≤ 65504) :
    Calls Try.prog 13 #[v] w (ReadP w (rdM X)) := by
  obtain ⟨A, c, rfl⟩ := hv.shape
  have hXI : ¬ (65504 : Int) < (X.length : Int) := by omega
  have hal1 : Below w.heap.size w (w.alloc (.cells zM.toArray 27)) := (Below.refl _ _).alloc (Nat.le_refl _) _
  have hz2 := Blk.new' w 27 zM
  have hv := hv.below hal1
  go_enter Try.func13, Try.ntmps13
  go_wp2_with (refine wp_new 27 rfl rfl zeroM ?_; refine wp_stop ?_)
  obtain ⟨w0, hw0⟩ : ∃ x, x = w.alloc (.cells zM.toArray 27) := ⟨_, rfl⟩
  rw [← hw0] at hz2 hv hal1 ⊢
  clear hw0
  obtain ⟨g2, hg2⟩ : ∃ g, g = w.heap.size := ⟨_, rfl⟩
  rw [← hg2] at hz2 ⊢
  have hgw2 : w.heap.size ≤ g2 := by omega
  clear hg2
  have hrd := read_any _ X F w0 hv (by omega)
  have Hrd := hid hrd
  clear hrd hv
  refine wp_go ?_
  cases hrm : rdM X with
  | error k =>
    have HW : Hid (∀ e w', ReadP w0 (rdM X) e w' → e = .returned (.tuple #[.agg zM.toArray, .int .i64 (k : Int)]) ∧ Below w0.heap.size w0 w') := fun e w' h => by
      rw [hrm] at h; exact h
    have HRD := hid hrm
    clear hrm
    go_wp2_with (fail)
    refine Hrd.out.mono ?_
    rintro e w2 h2
    obtain ⟨rfl, hB2⟩ := HW.out _ _ h2
    have hz2 := hz2.below hB2
    have hB2 := hal1.trans (hB2.mono hal1.size)
    clear h2 HW Hrd
    go_wp2_with (refine wp_st 27 (.tmp 2) (.tmp 10) rfl rfl rfl (f := 0) rfl (l := zM) rfl hz2 (by rw [len_zM]; omega) (by rw [len_zM]; exact sizeM) one_zM8 ?_; intro w3 hz3 hG3; refine wp_stop ?_)
    rw [set_all _ _ rfl] at hz3
    refine wp_go ?_
    go_wp2
    refine ret_cell1 rfl rfl rfl hz3.whole Try.underlying27 rfl (by rw [len_zM]; exact sizeM) rfl ?_
    show ReadP w (rdM X) _ _
    rw [HRD.out]
    exact ⟨rfl, hB2.grown hG3 hB2.size (fun k hk => by injection hk with hk; omega)⟩
  | ok m =>
    have hmh := rdM_h hrm
    have HW : Hid (∀ e w', ReadP w0 (rdM X) e w' → (∃ ub up, e = .returned (.tuple #[m.val ub up, .int .i64 0]) ∧ Rd w' (fun b => w0.heap.size ≤ b) ub (bys m.b) ∧ Rd w' (fun b => w0.heap.size ≤ b) up (tx m.ps)) ∧ Below w0.heap.size w0 w') := fun e w' h => by
      rw [hrm] at h; exact h
    have HRD := hid hrm
    clear hrm
    go_wp2_with (fail)
    refine Hrd.out.mono ?_
    rintro e w2 h2
    obtain ⟨⟨ub, up, rfl, hub, hup⟩, hB2⟩ := HW.out _ _ h2
    obtain ⟨AB, cb, rfl⟩ := hub.shape
    obtain ⟨AP, cpp, rfl, _, _⟩ := hup.slShape
    unfold Mg.val
    have hll := len_mg hmh (.slice AB m.b.length cb) (.slice AP m.ps.length cpp)
    have hl1 : ∀ v ∈ m.l (.slice AB m.b.length cb) (.slice AP m.ps.length cpp), v.oneCell' = true := one_mg
    obtain ⟨l, hl⟩ : ∃ l, l = m.l (.slice AB m.b.length cb) (.slice AP m.ps.length cpp) := ⟨_, rfl⟩
    rw [← hl] at hll hl1 ⊢
    have Hl := hid hl
    have Hll := hid hll
    have Hl1 := hid hl1
    have hg2l := hz2.lt
    have hs0 := hal1.size
    have hz2 := hz2.below hB2
    have hB2 := hal1.trans (hB2.mono hal1.size)
    clear h2 HW Hrd hl hll hl1
    go_wp2_with (refine wp_st 27 (.tmp 2) (.tmp 10) rfl rfl rfl (f := 0) rfl (l := l) rfl hz2 (by rw [len_zM, Hll.out]; omega) (by rw [Hll.out]; exact sizeM) Hl1.out ?_; intro w3 hz3 hG3; refine wp_stop ?_)
    rw [set_all _ _ (by rw [len_zM, Hll.out])] at hz3
    have hks : ∀ b, b < w2.heap.size → w0.heap.size ≤ b → w.heap.size ≤ b ∧ w3.heap[b]? = w2.heap[b]? := fun b hb hF => ⟨by omega, hG3.block b hb (by intro h; injection h with h; omega)⟩
    have hub3 := hub.keep (F' := fun b => w.heap.size ≤ b) hks
    have hup3 := hup.keep (F' := fun b => w.heap.size ≤ b) hks
    refine wp_go ?_
    go_wp2
    refine ret_cell1 rfl rfl rfl hz3.whole Try.underlying27 rfl (by rw [Hll.out]; exact sizeM) rfl ?_
    show ReadP w (rdM X) _ _
    rw [HRD.out]
    exact ⟨⟨_, _, by unfold Mg.val; rw [← Hl.out]; rfl, hub3, hup3⟩, hB2.grown hG3 hB2.size (fun k hk => by injection hk with hk; omega)⟩
/-- Get over too many bytes -/
theorem get8f_any (v : Value) (X : List UInt8) (F : Nat → Prop) (w : World) (hv : Rd w F v (bys X)) (hX : 65504 < X.length) :
    Calls Try.prog 13 #[v] w (ReadP w (.error 4)) := by
  obtain ⟨A, c, rfl⟩ := hv.shape
  have hXI : (65504 : Int) < (X.length : Int) := by omega
  have hal1 : Below w.heap.size w (w.alloc (.cells zM.toArray 27)) := (Below.refl _ _).alloc (Nat.le_refl _) _
  have hz2 := Blk.new' w 27 zM
  have hbl : ∀ W : World, (Instr.build 27 #[]).run Try.prog W = .ok (.agg zM.toArray) W := fun _ => by kernel_rfl
  go_enter Try.func13, Try.ntmps13
  go_wp2_with (refine wp_new 27 rfl rfl zeroM ?_; refine wp_stop ?_)
  obtain ⟨w0, hw0⟩ : ∃ x, x = w.alloc (.cells zM.toArray 27) := ⟨_, rfl⟩
  rw [← hw0] at hz2 hal1 ⊢
  clear hw0
  obtain ⟨g2, hg2⟩ : ∃ g, g = w.heap.size := ⟨_, rfl⟩
  rw [← hg2] at hz2 ⊢
  have hgw2 : w.heap.size ≤ g2 := by omega
  clear hg2
  refine wp_go ?_
  go_wp2_with (first | refine wp_bld 27 [] rfl rfl [] rfl hbl ?_ | refine wp_st 27 (.tmp 2) (.tmp 7) rfl rfl rfl (f := 0) rfl (l := zM) rfl hz2 (by rw [len_zM]; omega) (by rw [len_zM]; exact sizeM) one_zM8 ?_; intro w3 hz3 hG3; refine wp_stop ?_)
  rw [set_all _ _ rfl] at hz3
  refine wp_go ?_
  go_wp2
  refine ret_cell1 rfl rfl rfl hz3.whole Try.underlying27 rfl (by rw [len_zM]; exact sizeM) rfl ?_
  exact ⟨rfl, hal1.grown hG3 hal1.size (fun k hk => by injection hk with hk; omega)⟩
theorem errM_bd {m : Mg} (he : errM m = 0) : m.ps.length ≤ 16 ∧ numB m = true := by
  unfold errM at he
  split at he
  · cases he
  · split at he
    · exact ⟨by omega, by assumption⟩
    · cases he
theorem get8_any (m : Mg) (v : Value) (F : Nat → Prop) (w : World) (hm : MgIn m) (hlo : longB m = false) (he : errM m = 0) (hv : Rd w F v (bys (Mg.by m))) :
    Calls Try.prog 13 #[v] w fun e w' => ∃ ub up, e = .returned (.tuple #[m.val ub up, .int .i64 0]) ∧ Rd w' (fun b => w.heap.size ≤ b) ub (bys m.b) ∧ Rd w' (fun b => w.heap.size ≤ b) up (tx m.ps) ∧ Below w.heap.size w w' := by
  obtain ⟨h1, h2⟩ := errM_bd he
  obtain ⟨h3, _, h4⟩ := long_bd hlo
  have hb := len_by hm.h hlo
  have hr : rdM (Mg.by m) = .ok m := by
    have := rdM_put hm.h h2 (by omega) h1 (fun t ht => by have := h4 t ht; omega) []
    rwa [List.append_nil, if_pos rfl] at this
  refine (get8g_any v _ F w hv (by omega)).mono ?_
  rintro e w' h
  rw [hr] at h
  obtain ⟨⟨ub, up, rfl, hub, hup⟩, hB⟩ := h
  exact ⟨ub, up, rfl, hub, hup, hB⟩
theorem cut8_any (m : Mg) (n : Nat) (v : Value) (F : Nat → Prop) (w : World) (hm : MgIn m) (hlo : longB m = false) (he : errM m = 0) (hn : n < (Mg.by m).length) (hv : Rd w F v (bys ((Mg.by m).take n))) :
    Calls Try.prog 13 #[v] w fun e w' => e = .returned (.tuple #[.agg zM.toArray, .int .i64 1]) ∧ Below w.heap.size w w' := by
  obtain ⟨h1, h2⟩ := errM_bd he
  obtain ⟨h3, _, h4⟩ := long_bd hlo
  have hb := len_by hm.h hlo
  have hr := rdM_cut hm.h h2 (by omega) h1 (fun t ht => by have := h4 t ht; omega) n hn
  refine (get8g_any v _ F w hv (by rw [List.length_take]; omega)).mono ?_
  rintro e w' h
  rw [hr] at h
  exact h
theorem more8_any (m : Mg) (x : UInt8) (v : Value) (F : Nat → Prop) (w : World) (hm : MgIn m) (hlo : longB m = false) (he : errM m = 0) (hv : Rd w F v (bys (Mg.by m ++ [x]))) :
    Calls Try.prog 13 #[v] w fun e w' => e = .returned (.tuple #[.agg zM.toArray, .int .i64 2]) ∧ Below w.heap.size w w' := by
  obtain ⟨h1, h2⟩ := errM_bd he
  obtain ⟨h3, _, h4⟩ := long_bd hlo
  have hb := len_by hm.h hlo
  have hr := rdM_put hm.h h2 (by omega) h1 (fun t ht => by have := h4 t ht; omega) [x]
  rw [if_neg (by simp)] at hr
  refine (get8g_any v _ F w hv (by rw [List.length_append, List.length_singleton]; omega)).mono ?_
  rintro e w' h
  rw [hr] at h
  exact h
end Go.Proofs.Ythejallmkcohpaa
