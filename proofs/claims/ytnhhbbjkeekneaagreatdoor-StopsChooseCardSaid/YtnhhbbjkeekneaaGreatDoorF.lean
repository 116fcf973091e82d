/- F: several texts in one (Ct Cu Cw F). -/
import Derived.Test.YtnhhbbjkeekneaaGreatDoorW4
import Derived.Test.YtnhhbbjkeekneaaGreatDoorM1
import Derived.Test.YtnhhbbjkeekneaaGreatDoorCq
import Derived.Test.YtnhhbbjkeekneaaGreatDoorV
import Derived.OpenShut
import Derived.ChangeOld
import Derived.ShutString
set_option maxRecDepth 100000
set_option maxHeartbeats 16000000
namespace Go.Proofs.YtnhhbbjkeekneaaGreatDoor
open Go.RowKit Go.V
theorem ropenof9_any (ks : List (List UInt8)) (V : Vc) (X : List UInt8) (uk ur v : Value) (F G : Nat -> Prop) (w : World) (hks : KsSm ks) (hk : Rd w F uk (tx ks)) (hv : Rd w G v (bys X)) (hX : X.length <= 1000000) (hV : V.m < 65536) :
 Calls Tryz.prog 25 #[.agg #[uk, ur], vw V.n V.m, v] w (RdP w (opOf ks V X)) := by
 obtain ⟨n, M⟩ := V; dsimp only at hV; obtain ⟨A, c, rfl⟩ := hv.shape; obtain ⟨W1, hW1, b3, b4, hB⟩ := alloc2 w 40 24 [uk, ur] [.int .i64 n, .int .u16 (M : Int)]; have b6 := Blk.new' W1 69 (gM zM 0); have hB6 : Below W1.heap.size W1 (W1.alloc (.cells (gM zM 0).toArray 69)) := (Below.refl _ _).alloc (Nat.le_refl _) _; have hs1 : W1.heap.size = w.heap.size + 1 + 1 := by rw [hW1]; simp
 have b3 := b3.below hB6; have b4 := b4.below hB6; have hB := hB.trans (hB6.mono hB.size); have hk := hk.below hB; have hv := hv.below hB; have hop := hid (fun (e : Nat) => op_pos (ks := ks) (X := X) (e := e)); have hnm := hid (fun (m : Mg) => op_num (ks := ks) (X := X) (m := m))
 have hof := hid (show opOf ks ⟨n, M⟩ X = match opR ks X with
  | .ok m => if hasB M m.f = true then .ok m else .error 6
  | .error e => .error e from rfl)
 obtain ⟨R, hR⟩ := nm (opOf ks ⟨n, M⟩ X); rw [<- hR] at hof |-; have hbm := bldG8; unfold vw; clear hR hB6; go_enter Tryz.func25, Tryz.ntmps25; go_wp2_with (first | (refine wp_new 69 rfl rfl zeroG8 ?_; refine wp_stop ?_)); rw [hs1] at b6; obtain ⟨w0, hw0⟩ := nm (W1.alloc (.cells (gM zM 0).toArray 69)); rw [<- hw0] at b3 b4 b6 hB hk hv; rw [hW1] at hw0
 first | rw [<- hw0] | (simp only [List.toArray] at hw0 |-; rw [<- hw0])
 obtain ⟨g6, hg6⟩ := nm (w.heap.size + 1 + 1); rw [<- hg6] at b6 |-; obtain ⟨g4, hg4⟩ := nm (w.heap.size + 1); rw [<- hg4] at b4 |-; obtain ⟨g3, hg3⟩ := nm (w.heap.size); rw [<- hg3] at b3 |-; have hw3 : w.heap.size <= g3 := by omega
 have hw6 : w.heap.size <= g6 := by omega
 clear hg3 hg4 hg6 hw0 hW1 hs1; refine wp_go ?_; have hlz := hid (len_gM len_zM 0); have hlz1 := hid (len_gM len_zM); have hoz := hid (one_gM one_zM8); go_wp2_with (refine wp_ld 40 (.tmp 3) rfl rfl rfl b3.whole Tryz.underlying40 rfl sizeKs17 ?_); refine (ropen9_any ks X uk ur _ F G _ hks hk hv hX).mono ?_; intro e w1 hP; cases hr : opR ks X with
 | error k =>
  have hRe := hid (hof.out.trans (by rw [hr])); have hk0 := hop.out k hr; rw [hr] at hP; obtain ⟨rfl, hB1⟩ := hP; have hl6 := b6.lt; have b6 := b6.below hB1; have hB := hB.trans (hB1.mono hB.size); have hkI : ((k : Int) == 0) = false := by rw [beq_eq_false_iff_ne]; omega
  obtain ⟨lk, hlk⟩ := nm (gM zM k); have hone := hid (hoz.out k); have hlm := hid (hlz1.out k); have Hf1 := hid (gM_err len_zM k); have hRD : Hid (∀ W, Below w.heap.size w W -> RdP w R (.returned (.agg lk.toArray)) W) := hid (fun W h => by rw [hRe.out, hlk]; exact ⟨rfl, h⟩); rw [<- hlk] at hone hlm Hf1 |-; clear hlk hRe; clear hop hnm hof hr b3 b4 hk hv hB1 hk0; go_wp2_with (first | (refine wp_newst 69 7 (.tmp 10) rfl rfl rfl rfl rfl rfl zeroG8 (l := lk) rfl (by rw [hlm.out]; exact hlz.out) (by rw [hlm.out]; exact sizeG8) hone.out (by simp) ?_; intro w2 b8 hB2 hs2; refine wp_stop ?_)); have hlt6 := b6.lt; have b6 := b6.below hB2; have hB := hB.trans (hB2.mono hB.size); obtain ⟨g8, hg8⟩ := nm (w1.heap.size); rw [<- hg8] at b8 hlt6 |-; clear hg8 hs2 hB2; have c1 := b8.cellAt 39 _ Hf1.out; refine wp_go ?_; go_wp2_with (first | refine wp_ld 69 (.tmp 7) rfl rfl rfl b8.whole Tryz.underlying69 rfl (by rw [hlm.out]; exact sizeG8) ?_ | (refine wp_st 69 (.tmp 6) (.tmp 23) rfl rfl rfl (f := 0) rfl (l := lk) rfl b6 (by rw [hlz.out, hlm.out]; omega) (by rw [hlm.out]; exact sizeG8) hone.out ?_; intro w3 k6 G6; refine wp_stop ?_)); rw [set_all _ _ (by rw [hlz.out, hlm.out])] at k6; have hB := hB.grown G6 hB.size (fun k hk => by injection hk with hk; omega); refine wp_go ?_; go_wp2; refine ret_cell rfl rfl k6.whole Tryz.underlying69 rfl (by rw [hlm.out]; exact sizeG8) rfl ?_; exact hRD.out _ hB
 | ok m =>
  have hRo := hid (hof.out.trans (by rw [hr])); have hnb := hnm.out m hr; rw [hr] at hP; obtain ⟨⟨ub, up, rfl, hub, hup⟩, hB1⟩ := hP; have hmb : 0 <= m.f /\ m.f <= 15 := by unfold numB at hnb; have := of_decide_eq_true hnb; omega
  have hhl : m.h.length = 32 := op_hash hr; have hl60 := b6.lt; have b4 := b4.below hB1; have b6 := b6.below hB1; have hub := hub.weak (F' := fun b => w.heap.size <= b /\ b ≠ g6) (fun b _ h => ⟨Nat.le_trans hB.size h, by omega⟩); have hup := hup.weak (F' := fun b => w.heap.size <= b /\ b ≠ g6) (fun b _ h => ⟨Nat.le_trans hB.size h, by omega⟩); have hB := hB.trans (hB1.mono hB.size); obtain ⟨Ab, cb, rfl⟩ := hub.shape; obtain ⟨Ap, cp, rfl, _, _⟩ := hup.slShape; have hl39 := len_mg hhl (.slice Ab m.b.length cb) (.slice Ap m.ps.length cp); have hone := hid (one_gM (mg_one m Ab Ap m.b.length cb m.ps.length cp) 0); have hlm := hid (len_gM hl39 0); have Hf0 := hid (gM_err hl39 0); have Hf1 : Hid ((gM (m.l (.slice Ab m.b.length cb) (.slice Ap m.ps.length cp)) 0)[1]? = some (.int .i64 m.f)) := hid (by rw [gM_get hl39 0 1 (by omega)]; rfl); have hfin := hid (fun W (h1 : Rd W (fun b => w.heap.size <= b) (.slice Ab m.b.length cb) (bys m.b)) (h2 : Rd W (fun b => w.heap.size <= b) (.slice Ap m.ps.length cp) (tx m.ps)) (h3 : Below w.heap.size w W) => (show RdP w (.ok m) (.returned (.agg (gM (m.l (.slice Ab m.b.length cb) (.slice Ap m.ps.length cp)) 0).toArray)) W from ⟨⟨_, _, rfl, h1, h2⟩, h3⟩)); obtain ⟨lm, hlm'⟩ := nm (gM (m.l (.slice Ab m.b.length cb) (.slice Ap m.ps.length cp)) 0); rw [<- hlm'] at hone hlm Hf0 Hf1 hfin |-; clear hlm' hl39 hop hnm hof hr b3 hk hv hB1 hnb; go_wp2_with (first | (refine wp_newst 69 7 (.tmp 10) rfl rfl rfl rfl rfl rfl zeroG8 (l := lm) rfl (by rw [hlm.out]; exact hlz.out) (by rw [hlm.out]; exact sizeG8) hone.out (by simp) ?_; intro w2 b8 hB2 hs2; refine wp_stop ?_)); have hlt6 := b6.lt; have b6 := b6.below hB2; have b4 := b4.below hB2; have hub := hub.below hB2; have hup := hup.below hB2; have hB := hB.trans (hB2.mono hB.size); obtain ⟨g8, hg8⟩ := nm (w1.heap.size); rw [<- hg8] at b8 hlt6 |-; clear hg8 hs2 hB2; have c1 := b8.cellAt 1 _ Hf1.out; have c0 := b8.cellAt 39 _ Hf0.out; refine wp_go ?_; have hhas := hid (rhas_any n M m.f w2 hV); go_wp2_with (first | refine wp_ldg 24 (.tmp 4) (by rfl) rfl rfl b4.whole Tryz.underlying24 rfl sizeVw17 ?_); refine hhas.out.mono ?_; intro e w3 h3; obtain ⟨rfl, hB3⟩ := h3; have b6 := b6.below hB3; have b8 := b8.below hB3; have hub := hub.below hB3; have hup := hup.below hB3; have hB := hB.trans (hB3.mono hB.size); clear hhas hB3; cases hh : hasB M m.f with
  | false =>
   have hRe : Hid (R = .error 6) := hid (hRo.out.trans (by rw [hh]; rfl)); have hb6' := hbm 6; have ho6 := hid (hoz.out 6); have hl6' := hid (hlz1.out 6); have hRD : Hid (∀ W, Below w.heap.size w W -> RdP w R (.returned (.agg (gM zM 6).toArray)) W) := hid (fun W h => by rw [hRe.out]; exact ⟨rfl, h⟩); obtain ⟨l6, hle⟩ := nm (gM zM 6); rw [<- hle] at ho6 hl6' hb6' hRD; clear hRo hfin hub hup c1 hh hle hRe hoz hlz1 hbm; go_wp2_with (first | refine wp_bld 69 [(1, .const (.int .i64 6))] rfl rfl [(1, .int .i64 6)] rfl hb6' ?_ | (refine wp_st 69 (.tmp 6) (.tmp 22) rfl rfl rfl (f := 0) rfl (l := l6) rfl b6 (by rw [hlz.out, hl6'.out]; omega) (by rw [hl6'.out]; exact sizeG8) ho6.out ?_; intro w4 k6 G6; refine wp_stop ?_)); rw [set_all _ _ (by rw [hlz.out, hl6'.out])] at k6; have hB := hB.grown G6 hB.size (fun k hk => by injection hk with hk; omega); refine wp_go ?_; go_wp2; refine ret_cell rfl rfl k6.whole Tryz.underlying69 rfl (by rw [hl6'.out]; exact sizeG8) rfl ?_; exact hRD.out _ hB
  | true =>
   have hRe : Hid (R = .ok m) := hid (hRo.out.trans (by rw [hh]; rfl)); clear hRo hh; go_wp2_with (first | refine wp_ld 69 (.tmp 7) rfl rfl rfl b8.whole Tryz.underlying69 rfl (by rw [hlm.out]; exact sizeG8) ?_ | (refine wp_st 69 (.tmp 6) (.tmp 23) rfl rfl rfl (f := 0) rfl (l := lm) rfl b6 (by rw [hlz.out, hlm.out]; omega) (by rw [hlm.out]; exact sizeG8) hone.out ?_; intro w4 k6 G6; refine wp_stop ?_)); rw [set_all _ _ (by rw [hlz.out, hlm.out])] at k6; have hub := hub.keep (F' := fun b => w.heap.size <= b) (fun b hb hF => ⟨hF.1, G6.block b hb (by intro h; injection h with h; exact hF.2 h)⟩); have hup := hup.keep (F' := fun b => w.heap.size <= b) (fun b hb hF => ⟨hF.1, G6.block b hb (by intro h; injection h with h; exact hF.2 h)⟩); have hB := hB.grown G6 hB.size (fun k hk => by injection hk with hk; omega); refine wp_go ?_; go_wp2; refine ret_cell rfl rfl k6.whole Tryz.underlying69 rfl (by rw [hlm.out]; exact sizeG8) rfl ?_; rw [hRe.out]; exact hfin.out _ hub hup hB
def qOf (m : Mg) : Qc := ⟨m.k, m.v, m.r, m.s, m.h⟩
def cntI (ks : List (List UInt8)) (V : Vc) (q : Qc) (X : List UInt8) : Int := match cntC ks V q X with
 | some i => (i : Int)
 | none => -1
theorem opof_pos {ks : List (List UInt8)} {V : Vc} {X : List UInt8} {e : Nat} (h : opOf ks V X = .error e) : e ≠ 0 := by
 unfold opOf at h
 split at h
 . split at h
   . cases h
   . injection h with h; omega
 . rename_i e' he; injection h with h
   subst h; exact op_pos he
theorem opof_ok {ks : List (List UInt8)} {V : Vc} {X : List UInt8} {m : Mg} (h : opOf ks V X = .ok m) : m.h.length = 32 /\ 0 <= m.f := by
 unfold opOf at h
 split at h
 . rename_i m' hm
   split at h
   . rename_i hb; injection h with h
     subst h; unfold hasB at hb; rw [Bool.and_eq_true, decide_eq_true_eq] at hb; exact ⟨op_hash hm, by omega⟩
   . cases h
 . cases h
theorem cntI_err {ks : List (List UInt8)} {V : Vc} {q : Qc} {X : List UInt8} {e : Nat} (h : opOf ks V X = .error e) : cntI ks V q X = -1 := by
 unfold cntI cntC; rw [h]
theorem cnt_okI {ks : List (List UInt8)} {V : Vc} {q : Qc} {X : List UInt8} {m : Mg} (h : opOf ks V X = .ok m) (hc : m.v = V.n /\ m.k = q.k /\ m.v = q.v /\ m.r = q.r /\ m.s = q.s /\ m.h = q.h) : cntI ks V q X = m.f := by
 have := (opof_ok h).2; have e : cntC ks V q X = some m.f.toNat := by unfold cntC; rw [h]; exact if_pos hc
 unfold cntI; rw [e]; show ((m.f.toNat : Nat) : Int) = m.f; omega
theorem cnt_noI {ks : List (List UInt8)} {V : Vc} {q : Qc} {X : List UInt8} {m : Mg} (h : opOf ks V X = .ok m) (hc : ¬ (m.v = V.n /\ m.k = q.k /\ m.v = q.v /\ m.r = q.r /\ m.s = q.s /\ m.h = q.h)) : cntI ks V q X = -1 := by
 have e : cntC ks V q X = none := by unfold cntC; rw [h]; exact if_neg hc
 unfold cntI; rw [e]
theorem eqH17 (p q : List UInt8) (hp : p.length = 32) (hq : q.length = 32) : ∀ W : World, (Op.equalIn 10000 32 (.agg (bvs p).toArray) (.agg (bvs q).toArray)).run Tryz.prog W = .ok (decide (p = q)) W := fun W => by
 have := run_equalIn_bytes (P := Tryz.prog) W 9998 32 5 32 Tryz.underlying32 Tryz.underlying5 Tryz.sizeOf5 p q hp hq; rw [show decide (p = q) = (p == q) from by rw [Bool.eq_iff_iff]; simp]; exact this
theorem bneI {a b : Int} (h : a = b) : (a != b) = false := by rw [h]; simp
theorem bneN {a b : Int} (h : a ≠ b) : (a != b) = true := bne_iff_ne.2 h
theorem rcnt17_any (ks : List (List UInt8)) (V : Vc) (X : List UInt8) (m : Mg) (uk ur v ub up : Value) (F G : Nat -> Prop) (w : World) (hks : KsSm ks) (hk : Rd w F uk (tx ks)) (hv : Rd w G v (bys X)) (hX : X.length <= 1000000) (hV : V.m < 65536) (hm : m.h.length = 32) :
 Calls Tryz.prog 102 #[.agg #[uk, ur], vw V.n V.m, .agg (m.l ub up).toArray, v] w fun e w' => e = .returned (.int .i64 (cntI ks V (qOf m) X)) /\ Below w.heap.size w w' := by
 obtain ⟨n, M⟩ := V; dsimp only at hV; obtain ⟨A, c, rfl⟩ := hv.shape; have Hm0 : Hid ((m.l ub up)[0]? = some (.int .i64 m.k)) := hid rfl; have Hm2 : Hid ((m.l ub up)[2]? = some (.int .i64 m.v)) := hid rfl; have Hm3 : Hid ((m.l ub up)[3]? = some (.int .i64 m.r)) := hid rfl; have Hm4 : Hid ((m.l ub up)[4]? = some (.int .i64 m.s)) := hid rfl; have Hmh := hid (mg_hash hm ub up); obtain ⟨W0, hW0, b4, b5, b6, hB⟩ := alloc3 w 40 24 47 [uk, ur] [.int .i64 n, .int .u16 (M : Int)] (m.l ub up); have Hop := hid (fun F G Y h1 h2 => ropenof9_any ks ⟨n, M⟩ X uk ur (.slice A X.length c) F G Y hks h1 h2 hX hV); have hk := hk.below hB; have hv := hv.below hB; obtain ⟨lm, hlm⟩ := nm (m.l ub up); rw [<- hlm] at hW0 b6 Hm0 Hm2 Hm3 Hm4 Hmh |-; obtain ⟨q, hq⟩ := nm (cntI ks ⟨n, M⟩ (qOf m) X); rw [<- hq]; have He : Hid (∀ e, opOf ks ⟨n, M⟩ X = .error e -> q = -1 /\ e ≠ 0) := hid (fun e h => ⟨by rw [hq]; exact cntI_err h, opof_pos h⟩); have Hy : Hid (∀ x, opOf ks ⟨n, M⟩ X = .ok x -> (x.v = n /\ x.k = m.k /\ x.v = m.v /\ x.r = m.r /\ x.s = m.s /\ x.h = m.h) -> q = x.f) := hid (fun x h hc => by rw [hq]; exact cnt_okI h hc); have Hn : Hid (∀ x, opOf ks ⟨n, M⟩ X = .ok x -> ¬ (x.v = n /\ x.k = m.k /\ x.v = m.v /\ x.r = m.r /\ x.s = m.s /\ x.h = m.h) -> q = -1) := hid (fun x h hc => by rw [hq]; exact cnt_noI h hc); clear hq hlm; unfold vw; go_enter Tryz.func102, Tryz.ntmps102; go_upto_region 1 with (fail)
 first | rw [<- hW0] | (simp only [List.toArray] at hW0 |-; rw [<- hW0])
 clear hW0; obtain ⟨g6, hg6⟩ := nm (w.heap.size + 1 + 1); rw [<- hg6] at b6 |-; obtain ⟨g5, hg5⟩ := nm (w.heap.size + 1); rw [<- hg5] at b5 |-; obtain ⟨g4, hg4⟩ := nm (w.heap.size); rw [<- hg4] at b4 |-; clear hg4 hg5 hg6; go_wp2_with (first | refine wp_ld 40 (.tmp 4) rfl rfl rfl b4.whole Tryz.underlying40 rfl sizeKs17 ?_ | refine wp_ld 24 (.tmp 5) rfl rfl rfl b5.whole Tryz.underlying24 rfl sizeVw17 ?_); refine (Hop.out _ _ _ hk hv).mono ?_; intro e w1 hP; cases hr : opOf ks ⟨n, M⟩ X with
 | error k =>
  rw [hr] at hP; obtain ⟨rfl, hB1⟩ := hP; obtain ⟨hq, hk0⟩ := He.out k hr; have Hq := hid hq; have ne : ((k : Int) != 0) = true := bneN (by omega); have hlz := hid (len_gM len_zM k); have hoz := hid (one_gM one_zM8 k); have Hf0 := hid (gM_err len_zM k); have Hg := hid (fun j h => gM_get len_zM k j h); obtain ⟨lg, hlg⟩ := nm (gM zM k); rw [<- hlg] at hlz hoz Hf0 Hg |-; have hB := hB.trans (hB1.mono hB.size); clear hlg hr hq hk0 He Hy Hn hB1; go_wp2_with (first | (refine wp_newst 69 9 (.tmp 14) rfl rfl rfl rfl rfl rfl zeroG8 (l := lg) rfl (by rw [hlz.out]; exact len_gM len_zM 0) (by rw [hlz.out]; exact sizeG8) hoz.out (by simp) ?_; intro w2 b9 hB2 hs2; refine wp_stop ?_)); have hB := hB.trans (hB2.mono hB.size); clear hB2 hs2; have hzr := b9.range 0 zM (fun j x hx => by rw [Nat.zero_add, Hg.out j (by have := (List.getElem?_eq_some_iff.1 hx).1; rwa [len_zM] at this)]; exact hx); refine wp_go ?_; go_wp2_with (first | refine wp_ld 47 (.tmp 15) rfl rfl rfl hzr Tryz.underlying47 rfl (by rw [len_zM]; exact sizeM) ?_ | (refine wp_newst 47 10 (.tmp 16) rfl rfl rfl rfl rfl rfl zeroM (l := zM) rfl rfl (by rw [len_zM]; exact sizeM) one_zM8 (by simp [Act.put]) ?_; intro w3 b10 hB3 hs3; refine wp_stop ?_)); have b9 := b9.below hB3; have hB := hB.trans (hB3.mono hB.size); have c1 := b9.cellAt 39 _ Hf0.out; clear hB3 hs3 hzr; refine wp_go ?_; go_wp2; go_ret; exact ⟨by rw [Hq.out]; rfl, hB⟩
 | ok x =>
  rw [hr] at hP; obtain ⟨⟨xb, xp, rfl, hxb, hxp⟩, hB1⟩ := hP; obtain ⟨Ab, cb, rfl⟩ := hxb.shape; obtain ⟨Ap, cp, rfl, _, _⟩ := hxp.slShape; have Hxh := hid (opof_ok hr).1; have Hy1 := hid (Hy.out x hr); have Hn1 := hid (Hn.out x hr); have hl39 : (x.l (.slice Ab x.b.length cb) (.slice Ap x.ps.length cp)).length = 39 := len_mg Hxh.out _ _; have Hx0 : Hid ((x.l (.slice Ab x.b.length cb) (.slice Ap x.ps.length cp))[0]? = some (.int .i64 x.k)) := hid rfl; have Hx1 : Hid ((x.l (.slice Ab x.b.length cb) (.slice Ap x.ps.length cp))[1]? = some (.int .i64 x.f)) := hid rfl; have Hx2 : Hid ((x.l (.slice Ab x.b.length cb) (.slice Ap x.ps.length cp))[2]? = some (.int .i64 x.v)) := hid rfl; have Hx3 : Hid ((x.l (.slice Ab x.b.length cb) (.slice Ap x.ps.length cp))[3]? = some (.int .i64 x.r)) := hid rfl; have Hx4 : Hid ((x.l (.slice Ab x.b.length cb) (.slice Ap x.ps.length cp))[4]? = some (.int .i64 x.s)) := hid rfl; have Hxc := hid (mg_hash Hxh.out (.slice Ab x.b.length cb) (.slice Ap x.ps.length cp)); have hlo := hid (one_mg (m := x) (A := Ab) (B := Ap) (n := x.b.length) (c := cb) (k := x.ps.length) (d := cp)); obtain ⟨lx, hlx⟩ := nm (x.l (.slice Ab x.b.length cb) (.slice Ap x.ps.length cp)); rw [<- hlx] at hl39 Hx0 Hx1 Hx2 Hx3 Hx4 Hxc hlo |-; have Hl39 := hid hl39; have hlz := hid (len_gM hl39 0); have hoz := hid (one_gM hlo.out 0); have Hf0 := hid (gM_err hl39 0); have Hg := hid (fun j h => gM_get hl39 0 j h); obtain ⟨lg, hlg⟩ := nm (gM lx 0); rw [<- hlg] at hlz hoz Hf0 Hg |-; have hB := hB.trans (hB1.mono hB.size); have b5 := b5.below hB1; have b6 := b6.below hB1; clear hlg hlx hr He Hy Hn hB1 hxb hxp hl39; go_wp2_with (first | (refine wp_newst 69 9 (.tmp 14) rfl rfl rfl rfl rfl rfl zeroG8 (l := lg) rfl (by rw [hlz.out]; exact len_gM len_zM 0) (by rw [hlz.out]; exact sizeG8) hoz.out (by simp) ?_; intro w2 b9 hB2 hs2; refine wp_stop ?_)); have hB := hB.trans (hB2.mono hB.size); have b5 := b5.below hB2; have b6 := b6.below hB2; clear hB2 hs2; have hzr := b9.range 0 lx (fun j y hy => by rw [Nat.zero_add, Hg.out j (by have := (List.getElem?_eq_some_iff.1 hy).1; rwa [Hl39.out] at this)]; exact hy); refine wp_go ?_; go_wp2_with (first | refine wp_ld 47 (.tmp 15) rfl rfl rfl hzr Tryz.underlying47 rfl (by rw [Hl39.out]; exact sizeM) ?_ | (refine wp_newst 47 10 (.tmp 16) rfl rfl rfl rfl rfl rfl zeroM (l := lx) rfl (by rw [Hl39.out]; rfl) (by rw [Hl39.out]; exact sizeM) hlo.out (by simp [Act.put]) ?_; intro w3 b10 hB3 hs3; refine wp_stop ?_)); have b9 := b9.below hB3; have b5 := b5.below hB3; have b6 := b6.below hB3; have hB := hB.trans (hB3.mono hB.size); obtain ⟨g10, hg10⟩ := nm (w2.heap.size); obtain ⟨g9, hg9⟩ := nm (w1.heap.size); rw [<- hg10] at b10 |-; rw [<- hg9] at b9 |-; have c1 := b9.cellAt 39 _ Hf0.out; have x0 := b10.cellAt 0 _ Hx0.out; have x1 := b10.cellAt 1 _ Hx1.out; have x2 := b10.cellAt 2 _ Hx2.out; have x3 := b10.cellAt 3 _ Hx3.out; have x4 := b10.cellAt 4 _ Hx4.out; have m0 := b6.cellAt 0 _ Hm0.out; have m2 := b6.cellAt 2 _ Hm2.out; have m3 := b6.cellAt 3 _ Hm3.out; have m4 := b6.cellAt 4 _ Hm4.out; have v0 := b5.cellAt 0 _ rfl; have xh := b10.range 5 (bvs x.h) (Hxc.out); have mh := b6.range 5 (bvs m.h) (Hmh.out); have lxh := Hxh.out; have Lxh : Hid ((bvs x.h).length = 32) := hid (by rw [len_bvs]; exact lxh); have Lmh : Hid ((bvs m.h).length = 32) := hid (by rw [len_bvs]; exact hm); have Heq := hid (eqH17 x.h m.h lxh hm); clear hB3 hs3 hzr hg9 hg10 Hx0 Hx1 Hx2 Hx3 Hx4 Hm0 Hm2 Hm3 Hm4 lxh; refine wp_go ?_; by_cases h0 : x.v = n
  . have b0x := bneI h0; have H0 := hid h0; clear h0; by_cases h1 : x.k = m.k
    . have b1x := bneI h1; have H1 := hid h1; clear h1; by_cases h2 : x.v = m.v
      . have b2x := bneI h2; have H2 := hid h2; clear h2; by_cases h3 : x.r = m.r
        . have b3x := bneI h3; have H3 := hid h3; clear h3; by_cases h4 : x.s = m.s
          . have b4x := bneI h4; have H4 := hid h4; clear h4; by_cases hh : x.h = m.h
            . have Hq := hid (Hy1.out ⟨H0.out, H1.out, H2.out, H3.out, H4.out, hh⟩); have heq : ∀ W : World, (Op.equalIn 10000 32 (.agg (bvs x.h).toArray) (.agg (bvs m.h).toArray)).run Tryz.prog W = .ok true W := by have := Heq.out; rw [decide_eq_true hh] at this; exact this
              clear hh Hn1 Hy1 Heq; go_wp2_with (first | refine wp_ldg 32 (.tmp 56) (by rfl) rfl rfl xh Tryz.underlying32 rfl (by rw [Lxh.out]; exact size25) ?_ | refine wp_ldg 32 (.tmp 58) (by rfl) rfl rfl mh Tryz.underlying32 rfl (by rw [Lmh.out]; exact size25) ?_); go_ret; exact ⟨by rw [Hq.out]; rfl, hB⟩
            . have Hq := hid (Hn1.out (fun h => hh h.2.2.2.2.2)); have heq : ∀ W : World, (Op.equalIn 10000 32 (.agg (bvs x.h).toArray) (.agg (bvs m.h).toArray)).run Tryz.prog W = .ok false W := by have := Heq.out; rw [decide_eq_false hh] at this; exact this
              clear hh Hn1 Hy1 Heq; go_wp2_with (first | refine wp_ldg 32 (.tmp 56) (by rfl) rfl rfl xh Tryz.underlying32 rfl (by rw [Lxh.out]; exact size25) ?_ | refine wp_ldg 32 (.tmp 58) (by rfl) rfl rfl mh Tryz.underlying32 rfl (by rw [Lmh.out]; exact size25) ?_); go_ret; exact ⟨by rw [Hq.out]; rfl, hB⟩
          . have Hq := hid (Hn1.out (fun h => h4 h.2.2.2.2.1)); have b4x := bneN h4; clear h4 Hn1 Hy1 Heq; go_wp2_with (first | refine wp_ldg 32 (.tmp 56) (by rfl) rfl rfl xh Tryz.underlying32 rfl (by rw [Lxh.out]; exact size25) ?_ | refine wp_ldg 32 (.tmp 58) (by rfl) rfl rfl mh Tryz.underlying32 rfl (by rw [Lmh.out]; exact size25) ?_); go_ret; exact ⟨by rw [Hq.out]; rfl, hB⟩
        . have Hq := hid (Hn1.out (fun h => h3 h.2.2.2.1)); have b3x := bneN h3; clear h3 Hn1 Hy1 Heq; go_wp2_with (first | refine wp_ldg 32 (.tmp 56) (by rfl) rfl rfl xh Tryz.underlying32 rfl (by rw [Lxh.out]; exact size25) ?_ | refine wp_ldg 32 (.tmp 58) (by rfl) rfl rfl mh Tryz.underlying32 rfl (by rw [Lmh.out]; exact size25) ?_); go_ret; exact ⟨by rw [Hq.out]; rfl, hB⟩
      . have Hq := hid (Hn1.out (fun h => h2 h.2.2.1)); have b2x := bneN h2; clear h2 Hn1 Hy1 Heq; go_wp2_with (first | refine wp_ldg 32 (.tmp 56) (by rfl) rfl rfl xh Tryz.underlying32 rfl (by rw [Lxh.out]; exact size25) ?_ | refine wp_ldg 32 (.tmp 58) (by rfl) rfl rfl mh Tryz.underlying32 rfl (by rw [Lmh.out]; exact size25) ?_); go_ret; exact ⟨by rw [Hq.out]; rfl, hB⟩
    . have Hq := hid (Hn1.out (fun h => h1 h.2.1)); have b1x := bneN h1; clear h1 Hn1 Hy1 Heq; go_wp2_with (first | refine wp_ldg 32 (.tmp 56) (by rfl) rfl rfl xh Tryz.underlying32 rfl (by rw [Lxh.out]; exact size25) ?_ | refine wp_ldg 32 (.tmp 58) (by rfl) rfl rfl mh Tryz.underlying32 rfl (by rw [Lmh.out]; exact size25) ?_); go_ret; exact ⟨by rw [Hq.out]; rfl, hB⟩
  . have Hq := hid (Hn1.out (fun h => h0 h.1)); have b0x := bneN h0; clear h0 Hn1 Hy1 Heq; go_wp2_with (first | refine wp_ldg 32 (.tmp 56) (by rfl) rfl rfl xh Tryz.underlying32 rfl (by rw [Lxh.out]; exact size25) ?_ | refine wp_ldg 32 (.tmp 58) (by rfl) rfl rfl mh Tryz.underlying32 rfl (by rw [Lmh.out]; exact size25) ?_); go_ret; exact ⟨by rw [Hq.out]; rfl, hB⟩
theorem cnt_is (ks : List (List UInt8)) (V : Vc) (q : Qc) (i : Nat) (X : List UInt8) : (cntI ks V q X == (i : Int)) = isC ks V q i X := by
 unfold cntI isC; cases cntC ks V q X with
 | none =>
  rw [Bool.eq_iff_iff]; simp
 | some k =>
  rw [Bool.eq_iff_iff, beq_iff_eq, decide_eq_true_eq]; show (k : Int) = (i : Int) ↔ some k = some i; rw [Option.some.injEq]; omega
def wqC (ks : List (List UInt8)) (V : Vc) (q : Qc) (P : List (List UInt8)) (i : Nat) : List Nat := (List.range i).filter (fun j => P.any (isC ks V q j))
theorem wq_next (ks : List (List UInt8)) (V : Vc) (q : Qc) (P : List (List UInt8)) (i : Nat) : wqC ks V q P (i + 1) = if P.any (isC ks V q i) = true then wqC ks V q P i ++ [i] else wqC ks V q P i := by
 unfold wqC; rw [List.range_succ, List.filter_append]; by_cases h : P.any (isC ks V q i) = true
 . rw [if_pos h, List.filter_cons, if_pos h]; rfl
 . rw [if_neg h, List.filter_cons, if_neg h]; simp
theorem wq_len (ks : List (List UInt8)) (V : Vc) (q : Qc) (P : List (List UInt8)) (i : Nat) : (wqC ks V q P i).length <= i := by
 have := (List.filter_sublist (p := fun j => P.any (isC ks V q j)) (l := List.range i)).length_le; rw [List.length_range] at this; exact this
theorem any_next {f : List UInt8 -> Bool} {P : List (List UInt8)} {j : Nat} {X : List UInt8} (h : P[j]? = some X) : (P.take (j + 1)).any f = ((P.take j).any f || f X) := by
 rw [List.take_add_one, h, List.any_append]; simp
theorem any_take {f : List UInt8 -> Bool} {P : List (List UInt8)} {j : Nat} (h : (P.take j).any f = true) : P.any f = true := by
 rw [List.any_eq_true] at h |-; obtain ⟨X, hX, h2⟩ := h; exact ⟨X, List.mem_of_mem_take hX, h2⟩
theorem rwho17_any (ks : List (List UInt8)) (V : Vc) (P : List (List UInt8)) (m : Mg) (uk ur pv ub up : Value) (F H : Nat -> Prop) (w : World) (hks : KsSm ks) (hk : Rd w F uk (tx ks)) (hp : Rd w H pv (tx P)) (hP : P.length <= 1000) (hPl : ∀ X ∈ P, X.length <= 1000000) (hV : V.m < 65536) (hm : m.h.length = 32) :
 Calls Tryz.prog 75 #[.agg #[uk, ur], vw V.n V.m, .agg (m.l ub up).toArray, pv] w fun e w' => ∃ v', e = .returned v' /\ NewI w w' v' (whoC ks V (qOf m) P) := by
 obtain ⟨n, M⟩ := V; dsimp only at hV; obtain ⟨A, c, rfl, hcA, hcm⟩ := hp.slShape; have hmv : (m.val ub up : Value) = .agg (m.l ub up).toArray := rfl; obtain ⟨W0, hW0, b4, b5, b6, hB⟩ := alloc3 w 40 24 47 [uk, ur] [.int .i64 n, .int .u16 (M : Int)] (m.l ub up); have hcn := hid (fun X u G Y h1 h2 h3 => rcnt17_any ks ⟨n, M⟩ X m uk ur u ub up F G Y hks h1 h2 h3 hV hm); have hl39 : (m.l ub up).length = 39 := len_mg hm _ _; have Hl39 := hid hl39; have hp := hp.weak (F' := fun b => H b /\ b < w.heap.size) (fun b hb hF => ⟨hF, hb⟩); have hk := hk.below hB; have hp := hp.below hB; obtain ⟨lm, hlm⟩ := nm (m.l ub up); rw [<- hlm] at hW0 b6 Hl39 hcn |-; obtain ⟨q, hq⟩ := nm (qOf m); rw [<- hq] at hcn |-; clear hq hlm hl39 hmv; unfold vw; have hcnt : Hid (∀ X ∈ P, ∀ (u : Value) (G : Nat -> Prop) (Y : World), Rd Y F uk (tx ks) -> Rd Y G u (bys X) -> Calls Tryz.prog 102 #[.agg #[uk, ur], .agg #[.int .i64 n, .int .u16 (M : Int)], .agg lm.toArray, u] Y fun e w' => e = .returned (.int .i64 (cntI ks ⟨n, M⟩ q X)) /\ Below Y.heap.size Y w') := fun X hX u G Y h1 h2 => hcn.out X u G Y h1 h2 (hPl X hX); have hwq : Hid (whoC ks ⟨n, M⟩ q P = wqC ks ⟨n, M⟩ q P 16) := hid rfl; have hwn := hid (wq_next ks ⟨n, M⟩ q P); have hwl := hid (wq_len ks ⟨n, M⟩ q P); have hw0 : Hid (wqC ks ⟨n, M⟩ q P 0 = []) := hid rfl; obtain ⟨wq, hwqq⟩ := nm (wqC ks ⟨n, M⟩ q P); rw [<- hwqq] at hwq hwn hwl hw0; clear hwqq hcn hPl; go_enter Tryz.func75, Tryz.ntmps75; go_upto_region 1 with (fail)
 first | rw [<- hW0] | (simp only [List.toArray] at hW0 |-; rw [<- hW0])
 clear hW0; have hs0 := hB.size; obtain ⟨g6, hg6⟩ := nm (w.heap.size + 1 + 1); rw [<- hg6] at b6 |-; obtain ⟨g5, hg5⟩ := nm (w.heap.size + 1); rw [<- hg5] at b5 |-; obtain ⟨g4, hg4⟩ := nm (w.heap.size); rw [<- hg4] at b4 |-; clear hg4 hg5 hg6; have hnil := World.ownsRow_nil W0 W0.heap.size 3 1; go_wp2
 go_loopw [9, 10] (fun ov iv wr => ∃ i : Nat, i <= 16 /\ iv = .int .i64 i /\ wr.ownsRow W0.heap.size 3 1 ov (wq i).length (ivs (wq i)) /\ Below W0.heap.size W0 wr) (fun _ i _ => 16 - (intOf i).toNat)
 case atStart => exact ⟨0, by omega, rfl, by rw [hw0.out]; exact hnil, Below.refl _ _⟩
 case round =>
  clear hnil; obtain ⟨i, hi, rfl, hown, hBw⟩ := hrel; by_cases hlt : i < 16
  . have hI : (i : Int) < 16 := by omega
    have hwni := hid (hwn.out i); have hwli := hwl.out i; obtain ⟨f, hf⟩ := nm (isC ks ⟨n, M⟩ q i); rw [<- hf] at hwni; have hcf : Hid (∀ X, (cntI ks ⟨n, M⟩ q X == (i : Int)) = f X) := hid (fun X => by rw [hf]; exact cnt_is ks ⟨n, M⟩ q i X); clear hf; obtain ⟨wo, hwo⟩ := nm (wr); rw [<- hwo] at hown hBw |-; clear hwo; have hszo := hBw.size; go_wp2
    go_loopw [11, 12] (fun mv jv wr => ∃ j : Nat, j <= P.length /\ jv = .int .i64 j /\ mv = .bool ((P.take j).any f) /\ Below wo.heap.size wo wr) (fun _ j _ => P.length - (intOf j).toNat)
    case atStart => exact ⟨0, by omega, rfl, rfl, Below.refl _ _⟩
    case round =>
     obtain ⟨j, hj, rfl, rfl, hBr⟩ := hrel; have hBW := hBw.trans (hBr.mono hszo); cases hmj : (P.take j).any f with
     | true =>
      have hpa := any_take hmj; have Hn := hid (show wq (i + 1) = wq i ++ [i] by rw [hwni.out, if_pos hpa]); have hown2 := own_bel hown hBr; have hszr := hBW.size; clear hmj hpa; by_cases hjl : j < P.length
      . have hJ : (j : Int) < (P.length : Int) := by omega
        go_wp2_with (refine wp_push (.tmp 38) (.tmp 39) 40 slI rfl rfl rfl rfl rfl (u := .int .i64 (i : Int)) rfl rfl rfl (by simp) rfl hown2 (by simp only [maxLen]; omega) (by omega) hszr ?_; intro v4 w4 ho4 hG4 _; refine wp_stop ?_); rw [<- ivs_snoc] at ho4; have hB4 := hBW.grown hG4 hszr (fun k hk => (hown2.lt k hk).1); refine wp_go ?_; go_wp2
        go_roundw
        case rel => exact ⟨i + 1, by omega, by go_num, by rw [Hn.out, List.length_append]; exact ho4, hB4⟩
        case measure => simp [intOf]; omega
      . have hJ : ¬ (j : Int) < (P.length : Int) := by omega
        go_wp2_with (refine wp_push (.tmp 38) (.tmp 39) 40 slI rfl rfl rfl rfl rfl (u := .int .i64 (i : Int)) rfl rfl rfl (by simp) rfl hown2 (by simp only [maxLen]; omega) (by omega) hszr ?_; intro v4 w4 ho4 hG4 _; refine wp_stop ?_); rw [<- ivs_snoc] at ho4; have hB4 := hBW.grown hG4 hszr (fun k hk => (hown2.lt k hk).1); refine wp_go ?_; go_wp2
        go_roundw
        case rel => exact ⟨i + 1, by omega, by go_num, by rw [Hn.out, List.length_append]; exact ho4, hB4⟩
        case measure => simp [intOf]; omega
     | false =>
      by_cases hjl : j < P.length
      . have hJ : (j : Int) < (P.length : Int) := by omega
        obtain ⟨X, hX⟩ : ∃ X, P[j]? = some X := ⟨_, List.getElem?_eq_getElem hjl⟩
        obtain ⟨gp, offp, u, hAp, _, hcu, hu⟩ := Rd.elem (hp.below hBW) j (bys X) (by rw [List.getElem?_map, hX]; rfl); subst hAp; obtain ⟨Au, cu, rfl⟩ := hu.shape; have Hnx := hid (any_next (f := f) hX); rw [hmj, Bool.false_or] at Hnx; have Hcall := hid (fun Y h => hcnt.out X (List.mem_of_getElem? hX) (.slice Au X.length cu) _ Y ((hk.below hBW).below h) (hu.below h)); have hcx := hcf.out X; obtain ⟨cc, hcc⟩ := nm (cntI ks ⟨n, M⟩ q X); rw [<- hcc] at hcx Hcall; have C0 : Hid (∀ Z, Ch nob wr Z -> Z.cell? ⟨gp, offp + j, none⟩ = some (.slice Au X.length cu)) := fun Z h => (h.below.cell (lt_of_cell hcu)).trans hcu; have X4 : Hid (∀ Z, Ch nob wr Z -> Z.rangeAt g4 0 [uk, ur]) := fun Z h => ((b4.below hBW).below h.below).whole; have X5 : Hid (∀ Z, Ch nob wr Z -> Z.rangeAt g5 0 [.int .i64 n, .int .u16 (M : Int)]) := fun Z h => ((b5.below hBW).below h.below).whole; have X6 : Hid (∀ Z, Ch nob wr Z -> Z.rangeAt g6 0 lm) := fun Z h => ((b6.below hBW).below h.below).whole; clear hcc hX hu hcu; have hJb : j < P.length := hjl; go_upto_region 9 with (fail)
        cases hfx : f X with
        | true =>
         have hct : (cc == (i : Int)) = true := by rw [hcx, hfx]
         have Hnt : Hid ((P.take (j + 1)).any f = true) := hid (by rw [Hnx.out, hfx]); clear hcx hfx hmj; refine wp_region_noPanic ?_; refine wp_region_held_drew (S := Ch nob wr) (by kernel_rfl) ((Ch.refl _ _).drew) (fun hHeld => ?_); refine tkY 0 rfl (yieldsIf_load_mid (by rfl) 40 (.tmp 4) (by rfl) _ (0) (by rfl) _ _ (fun _ hs => X4.out _ hs) Tryz.underlying40 rfl (sizeKs17)) ?_; refine tkY 1 rfl (yieldsIf_load_mid (by rfl) 24 (.tmp 5) (by rfl) _ (0) (by rfl) _ _ (fun _ hs => X5.out _ hs) Tryz.underlying24 rfl (sizeVw17)) ?_; refine tkY 2 rfl (yieldsIf_load_mid (by rfl) 47 (.tmp 6) (by rfl) _ (0) (by rfl) _ _ (fun _ hs => X6.out _ hs) Tryz.underlying47 rfl (by rw [Hl39.out]; exact sizeM)) ?_; refine tkP 3 rfl ?_; refine tkP 4 rfl ?_; refine tkP 5 rfl ?_; refine tkF 6 rfl C0.out ?_; refine tkP 8 rfl ?_; refine rdH 7 rfl (fun K hK => ?_); go_simp; refine (Hcall.out _ hHeld.below).mono ?_; rintro e' w7 ⟨rfl, hB7⟩; refine hK.out _ _ (hHeld.belowR hB7) (fun hHeld => ?_); clear hK K
         try simp only [nP]
         refine tkP 9 rfl ?_; refine tkP 10 rfl ?_; refine wpAnyH_done (by kernel_rfl) ?_ _; refine NoPanic.normal ?_; go_wp2
         go_roundw
         case rel => exact ⟨j + 1, by omega, by go_num, by rw [Hnt.out], Ch.below_of hBr hHeld (fun k hk => hk.elim) hBr.size⟩
         case measure => simp [intOf]; omega
        | false =>
         have hct : (cc == (i : Int)) = false := by rw [hcx, hfx]
         have Hnt : Hid ((P.take (j + 1)).any f = false) := hid (by rw [Hnx.out, hfx]); clear hcx hfx hmj; refine wp_region_noPanic ?_; refine wp_region_held_drew (S := Ch nob wr) (by kernel_rfl) ((Ch.refl _ _).drew) (fun hHeld => ?_); refine tkY 0 rfl (yieldsIf_load_mid (by rfl) 40 (.tmp 4) (by rfl) _ (0) (by rfl) _ _ (fun _ hs => X4.out _ hs) Tryz.underlying40 rfl (sizeKs17)) ?_; refine tkY 1 rfl (yieldsIf_load_mid (by rfl) 24 (.tmp 5) (by rfl) _ (0) (by rfl) _ _ (fun _ hs => X5.out _ hs) Tryz.underlying24 rfl (sizeVw17)) ?_; refine tkY 2 rfl (yieldsIf_load_mid (by rfl) 47 (.tmp 6) (by rfl) _ (0) (by rfl) _ _ (fun _ hs => X6.out _ hs) Tryz.underlying47 rfl (by rw [Hl39.out]; exact sizeM)) ?_; refine tkP 3 rfl ?_; refine tkP 4 rfl ?_; refine tkP 5 rfl ?_; refine tkF 6 rfl C0.out ?_; refine tkP 8 rfl ?_; refine rdH 7 rfl (fun K hK => ?_); go_simp; refine (Hcall.out _ hHeld.below).mono ?_; rintro e' w7 ⟨rfl, hB7⟩; refine hK.out _ _ (hHeld.belowR hB7) (fun hHeld => ?_); clear hK K
         try simp only [nP]
         refine tkP 9 rfl ?_; refine tkP 10 rfl ?_; refine wpAnyH_done (by kernel_rfl) ?_ _; refine NoPanic.normal ?_; go_wp2
         go_roundw
         case rel => exact ⟨j + 1, by omega, by go_num, by rw [Hnt.out], Ch.below_of hBr hHeld (fun k hk => hk.elim) hBr.size⟩
         case measure => simp [intOf]; omega
      . have hJ : ¬ (j : Int) < (P.length : Int) := by omega
        have hpa : P.any f = false := by rw [List.take_of_length_le (by omega)] at hmj; exact hmj
        have Hn := hid (show wq (i + 1) = wq i by rw [hwni.out, hpa]; rfl); have hown2 := own_bel hown hBr; clear hmj hpa; go_wp2
        go_roundw
        case rel => exact ⟨i + 1, by omega, by go_num, by rw [Hn.out]; exact hown2, hBW⟩
        case measure => simp [intOf]; omega
  . have hi' : i = 16 := by omega
    subst hi'; have hI : ¬ (16 : Int) < 16 := by omega
    rw [<- hwq.out] at hown; go_wp2; go_ret; exact ⟨_, rfl, own_weak hown hs0, hB.trans (hBw.mono hs0)⟩
end Go.Proofs.YtnhhbbjkeekneaaGreatDoor
namespace Go.V
open Go.ChangeShapes Go.WideShapes Go.ChangeAt Go.RowKit
theorem u8_of_wf {n : Int} (h : (Lit.int .u8 n).wf = true) : 0 <= n /\ n < 256 := by
 simp [Lit.wf, IntKind.min, IntKind.max, IntKind.signed, IntKind.bits] at h; omega
theorem i64_of_wf {n : Int} (h : (Lit.int .i64 n).wf = true) : -9223372036854775808 <= n /\ n <= 9223372036854775807 := by
 simp [Lit.wf, IntKind.min, IntKind.max, IntKind.signed, IntKind.bits] at h; omega
theorem u16_of_wf {n : Int} (h : (Lit.int .u16 n).wf = true) : ∃ m : Nat, n = (m : Int) /\ m < 65536 := by
 simp [Lit.wf, IntKind.min, IntKind.max, IntKind.signed, IntKind.bits] at h; exact ⟨n.toNat, by omega, by omega⟩
theorem spot_none {W : World} {x : Addr} {v : Value} (h : W.cell? x = some v) : x.spot = none := by
 unfold World.cell? at h
 split at h
 . split at h
   . cases h
   . rename_i hs; simpa using hs
 . cases h
end Go.V
