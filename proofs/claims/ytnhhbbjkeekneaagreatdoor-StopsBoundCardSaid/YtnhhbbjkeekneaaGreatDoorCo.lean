/- Co: several texts in one (UV I4 Co). -/
import Derived.Test.YtnhhbbjkeekneaaGreatDoorVA
import Derived.Test.YtnhhbbjkeekneaaGreatDoorN6
import Derived.Test.YtnhhbbjkeekneaaGreatDoorRB
import Derived.Test.YtnhhbbjkeekneaaGreatDoorCq
import Derived.Test.YtnhhbbjkeekneaaGreatDoorZC
import Derived.Test.YtnhhbbjkeekneaaGreatDoorW2
/- UV: laws: two new variables stored at once (x, y := f()), two results that lie in cells, a pair of cells. No project text. -/
namespace Go.V
open Go.RowKit
theorem alloc2 (w : World) (tA tB : TypeId) (lA lB : List Value) : ∃ W, W = ((w.alloc (.cells lA.toArray tA)).alloc (.cells lB.toArray tB)) ∧ Blk W w.heap.size tA lA ∧ Blk W (w.heap.size + 1) tB lB ∧ Below w.heap.size w W := by
  refine ⟨_, rfl, ?_⟩
  have a1 := Blk.new' w tA lA
  have B1 : Below w.heap.size w (w.alloc (.cells lA.toArray tA)) := (Below.refl _ _).alloc (Nat.le_refl _) _
  obtain ⟨w1, h1⟩ : ∃ x, x = w.alloc (.cells lA.toArray tA) := ⟨_, rfl⟩
  have s1 : w1.heap.size = w.heap.size + 1 := by rw [h1]; simp
  rw [← h1] at a1 B1 ⊢
  clear h1
  have a2 := Blk.new' w1 tB lB
  have B2 : Below w1.heap.size w1 (w1.alloc (.cells lB.toArray tB)) := (Below.refl _ _).alloc (Nat.le_refl _) _
  rw [← s1]
  exact ⟨a1.below B2, a2, B1.trans (B2.mono (by omega))⟩
theorem alloc3 (w : World) (tA tB tC : TypeId) (lA lB lC : List Value) : ∃ W, W = (((w.alloc (.cells lA.toArray tA)).alloc (.cells lB.toArray tB)).alloc (.cells lC.toArray tC)) ∧ Blk W w.heap.size tA lA ∧ Blk W (w.heap.size + 1) tB lB ∧ Blk W (w.heap.size + 1 + 1) tC lC ∧ Below w.heap.size w W := by
  refine ⟨_, rfl, ?_⟩
  have a1 := Blk.new' w tA lA
  have B1 : Below w.heap.size w (w.alloc (.cells lA.toArray tA)) := (Below.refl _ _).alloc (Nat.le_refl _) _
  obtain ⟨w1, h1⟩ : ∃ x, x = w.alloc (.cells lA.toArray tA) := ⟨_, rfl⟩
  have s1 : w1.heap.size = w.heap.size + 1 := by rw [h1]; simp
  rw [← h1] at a1 B1 ⊢
  clear h1
  have a2 := Blk.new' w1 tB lB
  have B2 : Below w1.heap.size w1 (w1.alloc (.cells lB.toArray tB)) := (Below.refl _ _).alloc (Nat.le_refl _) _
  obtain ⟨w2, h2⟩ : ∃ x, x = w1.alloc (.cells lB.toArray tB) := ⟨_, rfl⟩
  have s2 : w2.heap.size = w1.heap.size + 1 := by rw [h2]; simp
  rw [← h2] at a2 B2 ⊢
  clear h2
  have a3 := Blk.new' w2 tC lC
  have B3 : Below w2.heap.size w2 (w2.alloc (.cells lC.toArray tC)) := (Below.refl _ _).alloc (Nat.le_refl _) _
  have e3 : w2.heap.size = w.heap.size + 1 + 1 := by omega
  rw [← e3, ← s1]
  exact ⟨(a1.below B2).below B3, a2.below B3, a3, (B1.trans (B2.mono (by omega))).trans (B3.mono (by omega))⟩
end Go.V
/- I4: layer 1: the document's reading of a packed number, a count, a text. -/
namespace Go.Proofs.YtnhhbbjkeekneaaGreatDoor
open Go.RowKit Go.V
theorem rd_err {bs : List UInt8} {e : Nat} (h : readPk bs = .error e) : e = 1 ∨ e = 2 := rdF_err _ _ _ _ h
end Go.Proofs.YtnhhbbjkeekneaaGreatDoor
/- Co: layer 17: contract of seals.OpenOf (layer 9), over the landed code. -/
namespace Go.Proofs.YtnhhbbjkeekneaaGreatDoor
open Go.RowKit Go.V
theorem cnt_pos {most : Int} {l : List UInt8} {e : Nat} (h : cntR most (readPk l) = .error e) : e ≠ 0 := by
  cases hr : readPk l with
  | error k =>
    rw [hr] at h
    have h : Except.error k = Except.error e := h
    injection h with h
    have := rd_err hr
    omega
  | ok r =>
    obtain ⟨x, n⟩ := r
    rw [hr] at h
    unfold cntR at h
    dsimp only at h
    split at h
    · injection h with h; omega
    · cases h
theorem txt_pos {most : Int} {l : List UInt8} {e : Nat} (h : textR most l = .error e) : e ≠ 0 := by
  unfold textR at h
  split at h
  · split at h
    · injection h with h; omega
    · cases h
  · rename_i k hk
    injection h with h
    subst h
    exact cnt_pos hk
theorem prt_pos : ∀ (c k : Nat) (X : List UInt8) (e : Nat), prtR c k X = .error e → e ≠ 0
  | 0, _, _, _, h => by simp only [prtR] at h; cases h
  | c + 1, k, X, e, h => by
    simp only [prtR] at h
    cases h1 : textR 65536 (X.drop k) with
    | error e' => rw [h1] at h; injection h with h; subst h; exact txt_pos h1
    | ok r =>
      obtain ⟨n, z⟩ := r
      rw [h1] at h
      dsimp only at h
      cases h2 : prtR c (k + (z + n)) X with
      | error e' => rw [h2] at h; injection h with h; subst h; exact prt_pos c _ X _ h2
      | ok q => rw [h2] at h; cases h
theorem rdM_pos {X : List UInt8} {e : Nat} (h : rdM X = .error e) : e ≠ 0 := by
  by_cases h40 : X.length < 40
  · rw [rd_short h40] at h
    injection h with h
    omega
  · rw [rd_head (by omega)] at h
    split at h
    · rename_i k hk
      injection h with h; subst h; exact txt_pos hk
    · split at h
      · rename_i k hk
        injection h with h; subst h; exact cnt_pos hk
      · split at h
        · rename_i k hk
          injection h with h; subst h; exact prt_pos _ _ _ _ hk
        · split at h
          · injection h with h; omega
          · split at h
            · cases h
            · injection h with h; omega
theorem rdM_hash {X : List UInt8} {m : Mg} (h : rdM X = .ok m) : m.h.length = 32 := by
  by_cases h40 : X.length < 40
  · rw [rd_short h40] at h; cases h
  · rw [rd_head (by omega)] at h
    split at h
    · cases h
    · split at h
      · cases h
      · split at h
        · cases h
        · split at h
          · cases h
          · split at h
            · injection h with h
              subst h
              show ((X.drop 8).take 32).length = 32
              rw [List.length_take, List.length_drop]
              omega
            · cases h
theorem op_pos {ks : List (List UInt8)} {X : List UInt8} {e : Nat} (h : opR ks X = .error e) : e ≠ 0 := by
  unfold opR at h
  split at h
  · injection h with h; omega
  · split at h
    · injection h with h; omega
    · split at h
      · rename_i k hk
        injection h with h; subst h; exact rdM_pos hk
      · split at h
        · injection h with h; omega
        · split at h
          · cases h
          · injection h with h; omega
theorem op_num {ks : List (List UInt8)} {X : List UInt8} {m : Mg} (h : opR ks X = .ok m) : numB m = true := by
  unfold opR at h
  split at h
  · cases h
  · split at h
    · cases h
    · split at h
      · cases h
      · rename_i m' hm
        split at h
        · cases h
        · split at h
          · injection h with h; subst h; exact rdM_num hm
          · cases h
theorem op_hash {ks : List (List UInt8)} {X : List UInt8} {m : Mg} (h : opR ks X = .ok m) : m.h.length = 32 := by
  unfold opR at h
  split at h
  · cases h
  · rename_i h32
    split at h
    · cases h
    · split at h
      · cases h
      · rename_i m' hm
        split at h
        · cases h
        · split at h
          · injection h with h; subst h; exact rdM_hash hm
          · cases h
theorem bldMz : ∀ W : World, (Instr.build 47 #[]).run Tryz.prog W = .ok (.agg zM.toArray) W := fun _ => by kernel_rfl
theorem sizeKs17 : (Tryz.prog.info? 40).map (·.size) = some 2 := by kernel_rfl
theorem sizeVw17 : (Tryz.prog.info? 24).map (·.size) = some 2 := by kernel_rfl
theorem mg_one (m : Mg) (A B : Option Addr) (a b c d : Nat) : ∀ v ∈ m.l (.slice A a b) (.slice B c d), v.oneCell' = true := by
  intro v hv
  unfold Mg.l at hv
  simp only [List.mem_cons, List.mem_append, List.not_mem_nil, or_false] at hv
  rcases hv with rfl | rfl | rfl | rfl | rfl | hv | rfl | rfl
  · rfl
  · rfl
  · rfl
  · rfl
  · rfl
  · exact oneCell_bvs _ v hv
  · rfl
  · rfl
set_option maxRecDepth 100000 in
set_option maxHeartbeats 4000000 in
theorem openof9_any (ks : List (List UInt8)) (V : Vc) (X : List UInt8) (uk ur v : Value) (F G : Nat → Prop) (w : World) (hKS : KS w) (hks : KsSm ks) (hk : Rd w F uk (tx ks)) (hv : Rd w G v (bys X)) (hX : X.length ≤ 1000000) (hV : V.m < 65536) :
    Calls Tryz.prog 21 #[.agg #[uk, ur], vw V.n V.m, v] w (ReadP w (opOf ks V X)) := by
  obtain ⟨n, M⟩ := V
  dsimp only at hV
  obtain ⟨A, c, rfl⟩ := hv.shape
  obtain ⟨W1, hW1, b3, b4, hB⟩ := alloc2 w 40 24 [uk, ur] [.int .i64 n, .int .u16 (M : Int)]
  have b6 := Blk.new' W1 47 zM
  have hB6 : Below W1.heap.size W1 (W1.alloc (.cells zM.toArray 47)) := (Below.refl _ _).alloc (Nat.le_refl _) _
  have hs1 : W1.heap.size = w.heap.size + 1 + 1 := by rw [hW1]; simp
  have b3 := b3.below hB6
  have b4 := b4.below hB6
  have hB := hB.trans (hB6.mono hB.size)
  have hKS := hKS.below hB
  have hk := hk.below hB
  have hv := hv.below hB
  have hop := hid (fun (e : Nat) => op_pos (ks := ks) (X := X) (e := e))
  have hnm := hid (fun (m : Mg) => op_num (ks := ks) (X := X) (m := m))
  have hof := hid (show opOf ks ⟨n, M⟩ X = match opR ks X with
    | .ok m => if hasB M m.f = true then .ok m else .error 6
    | .error e => .error e from rfl)
  obtain ⟨R, hR⟩ : ∃ R, R = opOf ks ⟨n, M⟩ X := ⟨_, rfl⟩
  rw [← hR] at hof ⊢
  have hbm := bldMz
  unfold vw
  clear hR hB6
  go_enter Tryz.func21, Tryz.ntmps21
  go_wp2_with (first | (refine wp_new 47 rfl rfl zeroM ?_; refine wp_stop ?_))
  rw [hs1] at b6
  obtain ⟨w0, hw0⟩ : ∃ x, x = W1.alloc (.cells zM.toArray 47) := ⟨_, rfl⟩
  rw [← hw0] at b3 b4 b6 hB hKS hk hv
  rw [hW1] at hw0
  first | rw [← hw0] | (simp only [List.toArray] at hw0 ⊢; rw [← hw0])
  obtain ⟨g6, hg6⟩ : ∃ g, g = w.heap.size + 1 + 1 := ⟨_, rfl⟩
  rw [← hg6] at b6 ⊢
  obtain ⟨g4, hg4⟩ : ∃ g, g = w.heap.size + 1 := ⟨_, rfl⟩
  rw [← hg4] at b4 ⊢
  obtain ⟨g3, hg3⟩ : ∃ g, g = w.heap.size := ⟨_, rfl⟩
  rw [← hg3] at b3 ⊢
  have hw3 : w.heap.size ≤ g3 := by omega
  have h36 : g3 < g6 := by omega
  have h46 : g4 < g6 := by omega
  clear hg3 hg4 hg6 hw0 hW1 hs1
  refine wp_go ?_
  go_wp2_with (refine wp_ld 40 (.tmp 3) rfl rfl rfl b3.whole Tryz.underlying40 rfl sizeKs17 ?_)
  refine (open9_any ks X uk ur _ F G _ hKS hks hk hv hX).mono ?_
  intro e w1 hP
  cases hr : opR ks X with
  | error k =>
    have hRe := hid (hof.out.trans (by rw [hr]))
    have hk0 := hop.out k hr
    rw [hr] at hP
    obtain ⟨rfl, hB1⟩ := hP
    have b6 := b6.below hB1
    have hB := hB.trans (hB1.mono hB.size)
    have hkI : ((k : Int) != 0) = true := bne_iff_ne.2 (by omega)
    clear hop hnm hof hr b3 b4 hKS hk hv hB1 hk0
    go_wp2_with (first | refine wp_bld 47 [] rfl rfl [] rfl hbm ?_ | (refine wp_newst 47 8 (.tmp 14) rfl rfl rfl rfl rfl rfl zeroM (l := zM) rfl rfl (by rw [len_zM]; exact sizeM) one_zM8 (by simp) ?_; intro w2 b8 hB2 hs2; refine wp_stop ?_))
    have b6 := b6.below hB2
    have hB := hB.trans (hB2.mono hB.size)
    clear hs2 b8
    refine wp_go ?_
    go_wp2_with (first | refine wp_bld 47 [] rfl rfl [] rfl hbm ?_ | (refine wp_st 47 (.tmp 6) (.tmp 18) rfl rfl rfl (f := 0) rfl (l := zM) rfl b6 (by rw [len_zM]; omega) (by rw [len_zM]; exact sizeM) one_zM8 ?_; intro w3 k6 G6))
    rw [set_all zM zM rfl] at k6
    have hB := hB.grown G6 hB.size (fun k hk => by injection hk with hk; omega)
    refine ret_cell1 rfl rfl rfl k6.whole Tryz.underlying47 rfl (by rw [len_zM]; exact sizeM) rfl ?_
    rw [hRe.out]
    exact ⟨rfl, hB⟩
  | ok m =>
    have hRo := hid (hof.out.trans (by rw [hr]))
    have hnb := hnm.out m hr
    rw [hr] at hP
    obtain ⟨⟨ub, up, rfl, hub, hup⟩, hB1⟩ := hP
    have hmb : 0 ≤ m.f ∧ m.f ≤ 15 := by unfold numB at hnb; have := of_decide_eq_true hnb; omega
    have hhl : m.h.length = 32 := op_hash hr
    have hl60 := b6.lt
    have b4 := b4.below hB1
    have b6 := b6.below hB1
    have hub := hub.weak (F' := fun b => w.heap.size ≤ b ∧ b ≠ g6) (fun b _ h => ⟨Nat.le_trans hB.size h, by omega⟩)
    have hup := hup.weak (F' := fun b => w.heap.size ≤ b ∧ b ≠ g6) (fun b _ h => ⟨Nat.le_trans hB.size h, by omega⟩)
    have hB := hB.trans (hB1.mono hB.size)
    obtain ⟨Ab, cb, rfl⟩ := hub.shape
    obtain ⟨Ap, cp, rfl, _, _⟩ := hup.slShape
    have hone := hid (mg_one m Ab Ap m.b.length cb m.ps.length cp)
    have hlm := hid (len_mg hhl (.slice Ab m.b.length cb) (.slice Ap m.ps.length cp))
    have hf1 : (m.l (.slice Ab m.b.length cb) (.slice Ap m.ps.length cp))[1]? = some (.int .i64 m.f) := rfl
    have hRD : Hid (∀ W, ReadP w (Except.ok m) (.returned (.tuple #[.agg (m.l (.slice Ab m.b.length cb) (.slice Ap m.ps.length cp)).toArray, .int .i64 0])) W ↔ ((∃ ub up, (.returned (.tuple #[.agg (m.l (.slice Ab m.b.length cb) (.slice Ap m.ps.length cp)).toArray, .int .i64 0]) : Ending) = .returned (.tuple #[m.val ub up, .int .i64 0]) ∧ Rd W (fun b => w.heap.size ≤ b) ub (bys m.b) ∧ Rd W (fun b => w.heap.size ≤ b) up (tx m.ps)) ∧ Below w.heap.size w W)) := fun W => Iff.rfl
    have hval : m.val (.slice Ab m.b.length cb) (.slice Ap m.ps.length cp) = .agg (m.l (.slice Ab m.b.length cb) (.slice Ap m.ps.length cp)).toArray := rfl
    have hfin := hid (fun W (h1 : Rd W (fun b => w.heap.size ≤ b) (.slice Ab m.b.length cb) (bys m.b)) (h2 : Rd W (fun b => w.heap.size ≤ b) (.slice Ap m.ps.length cp) (tx m.ps)) (h3 : Below w.heap.size w W) => (hRD.out W).2 ⟨⟨_, _, rfl, h1, h2⟩, h3⟩)
    rw [hval]
    obtain ⟨lm, hlm'⟩ : ∃ q, q = m.l (.slice Ab m.b.length cb) (.slice Ap m.ps.length cp) := ⟨_, rfl⟩
    rw [← hlm'] at hone hlm hf1 hfin ⊢
    have Hf1 := hid hf1
    clear hlm' hf1 hRD hval hop hnm hof hr b3 hKS hk hv hB1 hnb
    go_wp2_with (first | (refine wp_newst 47 8 (.tmp 14) rfl rfl rfl rfl rfl rfl zeroM (l := lm) rfl (by rw [hlm.out]; exact len_zM) (by rw [hlm.out]; exact sizeM) hone.out (by simp) ?_; intro w2 b8 hB2 hs2; refine wp_stop ?_))
    have b4 := b4.below hB2
    have hlt6 := b6.lt
    have b6 := b6.below hB2
    have hub := hub.below hB2
    have hup := hup.below hB2
    have hB := hB.trans (hB2.mono hB.size)
    obtain ⟨g8, hg8⟩ : ∃ g, g = w1.heap.size := ⟨_, rfl⟩
    rw [← hg8] at b8 hlt6 ⊢
    have hw6 : w.heap.size ≤ g6 := by omega
    clear hg8 hs2 hB2
    have c1 := b8.cellAt 1 _ Hf1.out
    clear h36 h46
    refine wp_go ?_
    have Hb := hid (hbm)
    have hhas := hid (has_any n M m.f w2 hV (by omega) (by omega))
    go_wp2_with (first | refine wp_ld 24 (.tmp 4) rfl rfl rfl b4.whole Tryz.underlying24 rfl sizeVw17 ?_ | refine wp_ldg 24 (.tmp 4) (by rfl) rfl rfl b4.whole Tryz.underlying24 rfl sizeVw17 ?_)
    refine hhas.out.mono ?_
    intro e w3 h3
    obtain ⟨rfl, hB3⟩ := h3
    have b6 := b6.below hB3
    have b8 := b8.below hB3
    have hub := hub.below hB3
    have hup := hup.below hB3
    have hB := hB.trans (hB3.mono hB.size)
    clear hhas hB3
    cases hh : hasB M m.f with
    | false =>
      have hRe : Hid (R = .error 6) := hid (hRo.out.trans (by rw [hh]; rfl))
      clear hRo hfin hub hup c1 hh
      go_wp2_with (first | refine wp_bld 47 [] rfl rfl [] rfl hbm ?_ | (refine wp_st 47 (.tmp 6) (.tmp 25) rfl rfl rfl (f := 0) rfl (l := zM) rfl b6 (by rw [len_zM]; omega) (by rw [len_zM]; exact sizeM) one_zM8 ?_; intro w4 k6 G6; refine wp_stop ?_))
      rw [set_all zM zM rfl] at k6
      have hB := hB.grown G6 hB.size (fun k hk => by injection hk with hk; omega)
      refine wp_go ?_
      go_wp2
      refine ret_cell1 rfl rfl rfl k6.whole Tryz.underlying47 rfl (by rw [len_zM]; exact sizeM) rfl ?_
      rw [hRe.out]
      exact ⟨rfl, hB⟩
    | true =>
      have hRe : Hid (R = .ok m) := hid (hRo.out.trans (by rw [hh]; rfl))
      clear hRo hh
      go_wp2_with (first | refine wp_ld 47 (.tmp 8) rfl rfl rfl b8.whole Tryz.underlying47 rfl (by rw [hlm.out]; exact sizeM) ?_ | (refine wp_st 47 (.tmp 6) (.tmp 26) rfl rfl rfl (f := 0) rfl (l := lm) rfl b6 (by rw [len_zM, hlm.out]; omega) (by rw [hlm.out]; exact sizeM) hone.out ?_; intro w4 k6 G6; refine wp_stop ?_))
      rw [set_all _ _ (by rw [len_zM, hlm.out])] at k6
      have hub := hub.keep (F' := fun b => w.heap.size ≤ b) (fun b hb hF => ⟨hF.1, G6.block b hb (by intro h; injection h with h; exact hF.2 h)⟩)
      have hup := hup.keep (F' := fun b => w.heap.size ≤ b) (fun b hb hF => ⟨hF.1, G6.block b hb (by intro h; injection h with h; exact hF.2 h)⟩)
      have hB := hB.grown G6 hB.size (fun k hk => by injection hk with hk; omega)
      refine wp_go ?_
      go_wp2
      refine ret_cell1 rfl rfl rfl k6.whole Tryz.underlying47 rfl (by rw [hlm.out]; exact sizeM) rfl ?_
      rw [hRe.out]
      exact hfin.out _ hub hup hB
end Go.Proofs.YtnhhbbjkeekneaaGreatDoor
