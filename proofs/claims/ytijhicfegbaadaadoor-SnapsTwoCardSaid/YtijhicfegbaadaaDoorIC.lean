/- IC: several texts in one (IB IL IJ IC). -/
import Derived.Test.YtijhicfegbaadaaDoorH1
import Derived.Test.YtijhicfegbaadaaDoorDC
import Derived.Shelf.GgClosure.StringsIndexFuncTop
import Derived.Laws.RangeString
import Derived.Laws.RangeAny
import Derived.Test.YtijhicfegbaadaaDoorI0
import Derived.Test.YtijhicfegbaadaaDoorCtF
import Derived.Test.YtijhicfegbaadaaDoorSA
import Derived.Test.YtijhicfegbaadaaDoorN3
import Derived.Test.YtijhicfegbaadaaDoorH2
import Derived.Test.YtijhicfegbaadaaDoorN8
/- IB: layer 12: bytes.Equal; what operations on a disk leave, one behind the other. -/
namespace Go.Proofs.YtijhicfegbaadaaDoor
open Go.RowKit Go.V
set_option maxRecDepth 100000 in
set_option maxHeartbeats 2000000 in
theorem bytesEq_any (A B : List UInt8) (va vb : Value) (F G : Nat → Prop) (w : World) (ha : Rd w F va (bys A)) (hb : Rd w G vb (bys B)) :
    Calls Tryd.prog 27 #[va, vb] w fun e w' => e = .returned (.bool (decide (A = B))) ∧ w' = w := by
  by_cases hE : A = B
  · rw [decide_eq_true hE]
    exact bytesEqual_e A B va vb F G w ha hb hE
  rw [decide_eq_false hE]
  obtain ⟨Aa, ca, rfl⟩ := ha.shape
  obtain ⟨Ab, cb, rfl⟩ := hb.shape
  have c1 := ha.str (P := Tryd.prog) (src := 22) (dst := 9) Tryd.underlying22 Tryd.underlying5 Tryd.underlying9
  have c2 := hb.str (P := Tryd.prog) (src := 22) (dst := 9) Tryd.underlying22 Tryd.underlying5 Tryd.underlying9
  have hne : (A == B) = false := beq_eq_false_iff_ne.2 hE
  clear ha hb hE
  go_enter Tryd.func27, Tryd.ntmps27
  go_wp2
  go_ret
  exact ⟨rfl, rfl⟩
theorem IXp.trans {w w1 w2 : World} {M F M1 F1 : Nat → Prop} {v : Value} {d : Dk} (hC : Ch M w w1) (hM : ∀ b, M1 b → M b ∨ w.heap.size ≤ b) (hF : ∀ b, F1 b → F b ∨ M b ∨ w.heap.size ≤ b) (h : IXp w1 M1 F1 v d w2) : IXp w M F v d w2 := by
  obtain ⟨M2, F2, hI, hC2, hM2, hF2⟩ := h
  have hs := hC.size
  refine ⟨M2, F2, hI, hC.transN hC2 (fun y e => hM y e), fun b e => ?_, fun b e => ?_⟩
  · rcases hM2 b e with e | e
    · exact hM b e
    · exact .inr (by omega)
  · rcases hF2 b e with e | e | e
    · exact hF b e
    · exact (hM b e).elim (fun e => .inr (.inl e)) (fun e => .inr (.inr e))
    · exact .inr (.inr (by omega))
theorem IXp.refl {w w' : World} {M F : Nat → Prop} {v : Value} {d : Dk} (h : IX w v M F d) (hB : Below w.heap.size w w') : IXp w M F v d w' :=
  ⟨M, F, h.keep (fun b hb _ => hB.block b hb) hB.size, (Ch.of_below hB).weaken (fun _ _ e => e.elim), fun _ e => .inl e, fun _ e => .inl e⟩
end Go.Proofs.YtijhicfegbaadaaDoor
/- IL: where the first rune lies of which a test holds that holds of all beyond ASCII: that is asked byte by byte. -/
namespace Go.V
open Go.RowKit
theorem idx_from {p : Nat → Bool} (hp : ∀ x, 128 ≤ x → p x = true) (s : ByteArray) : ∀ (f pos : Nat), s.size ≤ pos + f → decide (0 ≤ Go.Lib.idxFuncFrom p true s f pos) = (s.data.toList.drop pos).any fun c => p c.toNat
  | 0, pos, h => by
    rw [List.drop_eq_nil_of_le (by rw [Array.length_toList]; show s.size ≤ pos; omega)]
    rfl
  | f + 1, pos, h => by
    by_cases hps : pos < s.size
    · have hl : pos < s.data.toList.length := by rw [Array.length_toList]; exact hps
      have e : s.data.toList[pos] = s[pos]'hps := by rw [Array.getElem_toList]; rfl
      rw [List.drop_eq_getElem_cons hl, List.any_cons, e]
      unfold Go.Lib.idxFuncFrom
      rw [if_pos hps]
      by_cases ha : (s[pos]'hps).toNat < 128
      · rw [Go.decode_ascii s pos hps ha]
        dsimp only
        by_cases hc : p (s[pos]'hps).toNat = true
        · rw [if_pos hc, hc, Bool.true_or]
          exact decide_eq_true (by omega)
        · rw [if_neg hc, idx_from hp s f (pos + 1) (by omega)]
          have hc : p (s[pos]'hps).toNat = false := by simpa using hc
          rw [hc, Bool.false_or]
      · have hd := Go.decode_high s pos hps (by omega)
        rw [if_pos (hp _ hd.1), hp _ (by omega : 128 ≤ (s[pos]'hps).toNat), Bool.true_or]
        exact decide_eq_true (by omega)
    · rw [Go.Lib.idxFuncFrom_end _ _ _ _ _ hps, List.drop_eq_nil_of_le (by rw [Array.length_toList]; show s.size ≤ pos; omega)]
      rfl
theorem idx_any {p : Nat → Bool} (hp : ∀ x, 128 ≤ x → p x = true) (s : ByteArray) : decide (0 ≤ Go.Lib.idxFunc p true s) = s.toList.any fun c => p c.toNat := by
  rw [ba_toList]
  exact idx_from hp s s.size 0 (by omega)
end Go.V
/- IJ: layer 12, the landed package: names, a snap's bytes, what is refused. -/
namespace Go.V
open Go.RowKit
theorem named12_cf {n : ByteArray} {p : Nat → Bool} (hp : p = fun x => decide (x < 97) || decide (122 < x)) : named12 n = (decide (1 ≤ n.size) && decide (n.size ≤ 16) && !decide (0 ≤ Go.Lib.idxFunc p true n)) := by
  rw [idx_any (by intro x hx; rw [hp]; simp only [Bool.or_eq_true, decide_eq_true_eq]; exact .inr (by omega))]
  unfold named12
  congr 1
  rw [hp]
  induction n.toList with
  | nil => rfl
  | cons c l ih =>
    rw [List.all_cons, List.any_cons, ih, Bool.not_or]
    congr 1
    dsimp only
    by_cases h1 : c.toNat < 97 <;> by_cases h2 : 122 < c.toNat
    · omega
    · rw [decide_eq_true h1, decide_eq_false (by omega : ¬ 97 ≤ c.toNat)]; rfl
    · rw [decide_eq_true h2, decide_eq_false (by omega : ¬ c.toNat ≤ 122)]; simp
    · rw [decide_eq_false h1, decide_eq_false h2, decide_eq_true (by omega : 97 ≤ c.toNat), decide_eq_true (by omega : c.toNat ≤ 122)]; rfl
end Go.V
namespace Go.Proofs.YtijhicfegbaadaaDoor
open Go.RowKit Go.V
theorem other12_at (w : World) : PredAt Tryd.prog 58 #[] encR (fun x => decide (x < 97) || decide (122 < x)) w := fun W r _ => by
  unfold FnGives
  by_cases h1 : r < 97 <;> by_cases h2 : 122 < r
  all_goals
    have z1 : (r : Int) < 97 ↔ r < 97 := by omega
    have z2 : (122 : Int) < (r : Int) ↔ 122 < r := by omega
    go_enter Tryd.func58, Tryd.ntmps58
    go_wp2
    all_goals first | (exfalso; omega) | (go_ret; exact ⟨by simp [h1, h2], 0, rfl⟩)
theorem isName12_e (n : ByteArray) (w : World) : Calls Tryd.prog 42 #[.string n] w fun e w' => e = .returned (.bool (named12 n)) ∧ Below w.heap.size w w' := by
  obtain ⟨p, hp⟩ : ∃ p : Nat → Bool, p = fun x => decide (x < 97) || decide (122 < x) := ⟨_, rfl⟩
  have hC := fun W => Tryd.strings_ContainsFunc 58 #[] (enters_of Tryd.func58 (by kernel_rfl) rfl) p n W (hp ▸ other12_at W)
  obtain ⟨r, hr⟩ : ∃ r, r = named12 n := ⟨_, rfl⟩
  obtain ⟨q, hq⟩ : ∃ q, q = decide (0 ≤ Go.Lib.idxFunc p true n) := ⟨_, rfl⟩
  have hrq := hr.trans (named12_cf hp)
  rw [← hq] at hC hrq
  rw [← hr]
  clear hr hq hp
  have Hc := hid hC
  clear hC
  by_cases h1 : 1 ≤ n.size
  case neg =>
    have d1 : decide ((n.size : Int) ≤ 0) = true := decide_eq_true (by omega)
    have d2 : ¬ (0 : Int) < (n.size : Int) := by omega
    have hF : r = false := by rw [hrq, decide_eq_false h1]; rfl
    rw [hF]
    clear hrq hF
    go_enter Tryd.func42, Tryd.ntmps42
    go_wp2_with (fail)
    go_ret
    exact ⟨rfl, Below.refl _ _⟩
  by_cases h2 : n.size ≤ 16
  case neg =>
    have d1 : (0 : Int) < (n.size : Int) := by omega
    have d2 : ¬ (n.size : Int) ≤ 16 := by omega
    have hF : r = false := by rw [hrq, decide_eq_false h2, Bool.and_false, Bool.false_and]
    rw [hF]
    clear hrq hF
    go_enter Tryd.func42, Tryd.ntmps42
    go_wp2_with (fail)
    go_ret
    exact ⟨rfl, Below.refl _ _⟩
  have d1 : (0 : Int) < (n.size : Int) := by omega
  have d2 : (n.size : Int) ≤ 16 := by omega
  have hF : r = !q := by rw [hrq, decide_eq_true h1, decide_eq_true h2]; rfl
  rw [hF]
  clear hrq hF
  go_enter Tryd.func42, Tryd.ntmps42
  go_wp2_with (fail)
  refine (Hc.out _).mono ?_
  rintro e w1 ⟨rfl, hB1⟩
  go_wp2
  go_ret
  exact ⟨rfl, hB1⟩
set_option maxRecDepth 100000 in
set_option maxHeartbeats 4000000 in
theorem bytesOf12_e (vt : Value) (t : List UInt8) (F : Nat → Prop) (w : World) (hK : KS w) (hv : Rd w F vt (bys t)) (ht : t.length ≤ 1000000) :
    Calls Tryd.prog 28 #[vt] w fun e w' => ∃ v, e = .returned v ∧ NewB w w' v (toldF t) := by
  obtain ⟨At, ct, rfl⟩ := hv.shape
  obtain ⟨X, hX⟩ : ∃ X, X = packed t.length ++ t := ⟨_, rfl⟩
  have hXl : X.length ≤ 1000100 := by
    have h2 := psz_bd t.length
    rw [hX]
    simp only [List.length_append, length_packed]
    omega
  have hrf : toldF t = X ++ (shaF X).take 8 := by rw [hX]; rfl
  rw [hrf]
  have HX := hid hX
  clear hX hrf
  have hnil : ∀ W : World, Rd W (fun _ => True) (.slice none 0 0) (bys []) := fun W => Rd.nil W _
  go_enter Tryd.func28, Tryd.ntmps28
  go_wp2_with (fail)
  refine (putt_any _ _ [] t _ _ _ (hnil _) hv (by simp) (by omega)).mono ?_
  rintro e w2 ⟨v2, rfl, ho2, hB2⟩
  rw [List.nil_append, ← HX.out] at ho2
  obtain ⟨A2, c2, rfl⟩ := own_shape ho2
  have hr2 : Rd w2 (fun _ => True) (.slice A2 X.length c2) (bys X) := (Rd.of_own ho2).weak (fun _ _ _ => trivial)
  go_wp2_with (fail)
  refine (sum_any _ X _ _ (hK.below hB2) hr2 (by omega)).mono ?_
  rintro e w3 ⟨rfl, hB3⟩
  have ho3 := own_bel ho2 hB3
  have hB3' := hB2.trans (hB3.mono hB2.size)
  have hg1 := hB2.size
  have hg2 : w.heap.size ≤ w3.heap.size := hB3'.size
  clear hB2 hB3 ho2 hr2
  go_wp2_with (refine wp_newst 70 4 (.tmp 8) rfl rfl rfl rfl rfl rfl zero25 (l := bvs (shaF X)) rfl (by simp [zs8, len_bvs, len_sha]) (by rw [len_bvs, len_sha]; exact size25) (oneCell_bvs _) (by simp) ?_; intro w4 hq4 hB4 hs4; refine wp_stop ?_)
  have ho4 := own_bel ho3 hB4
  have hB4' := hB3'.trans (hB4.mono hB3'.size)
  obtain ⟨gq, hgq⟩ : ∃ g, g = w3.heap.size := ⟨_, rfl⟩
  rw [← hgq] at hq4 hs4 ⊢
  have hsl := fun W => run_sla_h und25 size8 gq 0 8 .i64 8 rfl (by omega) (by omega) W
  have hsrc := (Blk.rdcut hq4 8 32 (by rw [len_sha]; omega) (by omega) (by simp [maxLen])).src
  have hwq : w.heap.size ≤ gq := by have := hB3'.size; omega
  have hg3 : w.heap.size ≤ w4.heap.size := Nat.le_trans hg2 hB4.size
  clear hB4 ho3 hgq hg2
  refine wp_go ?_
  rw [show (List.take 8 (shaF X)).length = 8 from by rw [List.length_take, len_sha]; rfl] at hsrc
  go_wp2_with (with_reducible refine wp_at 11 rfl ?_)
  refine wp_on ?_
  refine wp_app (.tmp 9) (.tmp 10) slB rfl rfl rfl ho4 rfl hsrc (oneCell_bvs _) (by simp only [maxLen]; omega) (by omega) hg3 ?_
  intro v5 w5 ho5 hG5 _
  go_wp2
  go_ret
  refine ⟨v5, rfl, ?_, hB4'.grown hG5 hB4'.size (fun k hk => by have := (ho4.lt k hk).1; omega)⟩
  have e : bvs X ++ bvs (List.take 8 (shaF X)) = bvs (X ++ List.take 8 (shaF X)) := by simp [bvs]
  rw [e] at ho5
  rw [show (X ++ List.take 8 (shaF X)).length = X.length + 8 from by rw [List.length_append, List.length_take, len_sha]; omega]
  exact ho5
/-- what is wrong with a call, where there is a disk -/
theorem refusal12_e (k x : Nat) (hk : k = 0 ∨ k = 1) (n : ByteArray) (A : Option Addr) (m c : Nat) (hm : m ≤ 65536) (w : World) :
    Calls Tryd.prog 24 #[.int .i64 (k : Int), .pointer (some ⟨x, 0, none⟩), .string n, .slice A m c] w fun e w' => e = .returned (.int .i64 (if named12 n = false then 15 else 0)) ∧ Below w.heap.size w w' := by
  have hl : ¬ (65536 : Int) < (m : Int) := by omega
  have hC := isName12_e n
  have Hc := hid hC
  clear hC
  obtain ⟨r, hr⟩ : ∃ r : Int, r = if named12 n = false then 15 else 0 := ⟨_, rfl⟩
  rw [← hr]
  cases hn : named12 n <;> rw [hn] at hr <;> simp only [if_true, Bool.true_eq_false, if_false] at hr <;> subst hr <;> have Hn := hid hn <;> clear hn
  all_goals
    rcases hk with rfl | rfl
    all_goals
      go_enter Tryd.func24, Tryd.ntmps24
      go_wp2_with (fail)
      refine (Hc.out _).mono ?_
      rintro e w1 ⟨rfl, hB1⟩
      rw [Hn.out]
      go_wp2
      go_ret
      exact ⟨rfl, hB1⟩
end Go.Proofs.YtijhicfegbaadaaDoor
/- IC: layer 12: contracts of package snaps, over the landed code. -/
namespace Go.V
open Go.RowKit
theorem snR_sm2 {n t : ByteArray} (hn : n.size ≤ 1000) (ht : t.size ≤ 1000) : AcSm (snR n t) := ⟨Nat.zero_le _, (show (0 : Nat) < 18446744073709551616 by decide), (show (-9223372036854775808 : Int) ≤ 0 ∧ (0 : Int) ≤ 9223372036854775807 by decide), (show (-9223372036854775808 : Int) ≤ 0 ∧ (0 : Int) ≤ 9223372036854775807 by decide), by show n.size ≤ maxLen; simp [maxLen]; omega, by show t.size ≤ maxLen; simp [maxLen]; omega⟩
theorem half_sm {D : Dk} {c T : Nat} {fl : ByteArray → Option (List UInt8)} (h : SN D c T fl) {n : ByteArray} {b : List UInt8} (hc : c ≤ 50000) (hT : T ≤ 50000000) (hb : b.length ≤ 1000000) (_hr : ¬ D.room < (szA (snW (n ++ newN) b) (nowF D) : Int)) :
    DkSm { D with pend := [snW (n ++ newN) b] } ∧ DkSm { D with syn := doneF D.syn (snW (n ++ newN) b) } ∧ DkSm { D with syn := doneF D.syn (snW (n ++ newN) b), pend := [snR (n ++ newN) n] } := by
  have e1 : (snW (n ++ newN) b).b.length = b.length := rfl
  have e2 : (snR (n ++ newN) n).b.length = 0 := rfl
  have l1 := done_len D.syn (snW (n ++ newN) b)
  have t1 := done_tot D.syn (snW (n ++ newN) b)
  have hn0 := h.n
  have ht0 := h.t
  have he := h.e
  have hf := h.cm.1
  have hrm := h.r
  refine ⟨⟨?_, ?_, ⟨hrm.1, by show D.room ≤ _; omega⟩, by show _ ≤ D.fuse ∧ D.fuse ≤ _; omega⟩, ⟨?_, ?_, ⟨hrm.1, by show D.room ≤ _; omega⟩, by show _ ≤ D.fuse ∧ D.fuse ≤ _; omega⟩, ⟨?_, ?_, ⟨hrm.1, by show D.room ≤ _; omega⟩, by show _ ≤ D.fuse ∧ D.fuse ≤ _; omega⟩⟩
  · show D.syn.length + 1 ≤ _; omega
  · show tot D.syn + totA [snW (n ++ newN) b] ≤ _; rw [totA_one]; omega
  · show (doneF D.syn (snW (n ++ newN) b)).length + D.pend.length ≤ _; rw [he]; simp; omega
  · show tot (doneF D.syn (snW (n ++ newN) b)) + totA D.pend ≤ _; rw [he]; unfold totA; simp; omega
  · show (doneF D.syn (snW (n ++ newN) b)).length + 1 ≤ _; omega
  · show tot (doneF D.syn (snW (n ++ newN) b)) + totA [snR (n ++ newN) n] ≤ _; rw [totA_one]; omega
end Go.V
namespace Go.Proofs.YtijhicfegbaadaaDoor
open Go.RowKit Go.V
theorem IXp.bel {w0 w w' : World} {M F : Nat → Prop} {v : Value} {d : Dk} (h : IXp w M F v d w') (hB : Below w0.heap.size w0 w) (hM : ∀ b, M b → w0.heap.size ≤ b) : ∃ M' F', IX w' v M' F' d ∧ Below w0.heap.size w0 w' ∧ (∀ b, M' b → w0.heap.size ≤ b) ∧ Ch M w w' := by
  obtain ⟨M', F', hI, hC, hM', _⟩ := h
  exact ⟨M', F', hI, ⟨hC.os.trans hB.os, hC.tape.trans hB.tape, hC.output.trans hB.output, Nat.le_trans hB.size hC.size, fun k hk => (hC.block k (by have := hB.size; omega) (fun hm => by have := hM k hm; omega)).trans (hB.block k hk)⟩, fun b hb => (hM' b hb).elim (hM b) (fun h => by have := hB.size; omega), hC⟩
set_option maxRecDepth 100000 in
set_option maxHeartbeats 8000000 in
theorem save12_any (dv : Value) (M F G : Nat → Prop) (D : Dk) (c T : Nat) (fl : ByteArray → Option (List UInt8)) (n : ByteArray) (t : List UInt8) (vt : Value) (w : World) (hK : KS w) (h : IX w dv M F D) (hS : SN D c T fl) (hc : c ≤ 50000) (hT : T ≤ 50000000) (hn : n.size ≤ 1000) (ht : t.length ≤ 65536) (hvt : Rd w G vt (bys t)) (_hG : ∀ b, G b → ¬ M b) (_hMK : ¬ M (0 : Nat)) :
    Calls Tryd.prog 15 #[dv, .string n, vt] w fun e w' => e = .returned (.int .i64 (saveR D n (toldF t)).2) ∧ IXp w M F dv (saveR D n (toldF t)).1 w' := by
  obtain ⟨At, ct, rfl⟩ := hvt.shape
  obtain ⟨xd, rfl⟩ := h.ptr
  have hI65 : ¬ (65536 : Int) < (t.length : Int) := by omega
  have Hnm := hid (refusal12_e 1 xd (.inr rfl) n At t.length ct ht)
  have Htl := hid (fun (v : Value) (F : Nat → Prop) (w : World) (hK : KS w) (hv : Rd w F v (bys t)) => bytesOf12_e v t F w hK hv (by omega))
  have Hdn := hid hS.cm.2
  have hTb := told_len t
  have hpz := psz_bd t.length
  obtain ⟨B, hB⟩ : ∃ B, B = toldF t := ⟨_, rfl⟩
  rw [← hB] at hTb ⊢
  have HB := hid hB
  clear hB
  have hBl : B.length ≤ 70000 := by omega
  clear hTb
  go_enter Tryd.func15, Tryd.ntmps15
  go_wp2_with (fail)
  refine (Hnm.out _).mono ?_
  rintro e w1 ⟨rfl, hB1⟩
  have h1 := h.keep (w' := w1) (fun b hb _ => hB1.block b hb) hB1.size
  by_cases hnn : named12 n = true
  case neg =>
    have hnn : named12 n = false := by simpa using hnn
    have hsv : saveR D n B = (D, 15) := if_pos hnn
    have Hr := hid (IXp.refl h hB1)
    have Hsv := hid hsv
    clear hsv
    rw [hnn, if_pos rfl]
    go_wp2
    go_ret
    rw [Hsv.out]
    exact ⟨rfl, Hr.out⟩
  rw [hnn, if_neg (by simp)]
  have Hn := hid hnn
  clear hnn
  have hvt1 := hvt.below hB1
  have K1 := hK.below hB1
  have hbd := h.bd
  go_wp2_with (fail)
  refine (Htl.out _ _ _ K1 hvt1).mono ?_
  rintro e w2 ⟨v2, rfl, ho2, hB2⟩
  rw [← HB.out] at ho2
  have hBB := hB1.trans (hB2.mono hB1.size)
  have h2 := h.keep (w' := w2) (fun b hb _ => hBB.block b hb) hBB.size
  have hr2 := Rd.of_own ho2
  obtain ⟨A2, c2, rfl⟩ := own_shape ho2
  have hns := named_size Hn.out
  have hnl : (n ++ newN).size ≤ 30 := by rw [ByteArray.size_append]; have : newN.size = 4 := rfl; omega
  have hst : ¬ D.room < (szA (snW (n ++ newN) B) (nowF D) : Int) → _ := fun hf => hS.steps (b := B) Hn.out hf
  have hsz : D.room < (szA (snW (n ++ newN) B) (nowF D) : Int) → doF D (snW (n ++ newN) B) = (D, 4) := fun hf => by
    rw [do_put (.inr rfl), hS.cm.2, if_neg (by simp), if_neg (by show ¬ namF (n ++ newN) = false; rw [(new_nam Hn.out).1]; simp), if_pos hf]
  have hsv1 : D.room < (szA (snW (n ++ newN) B) (nowF D) : Int) → saveR D n B = (D, 4) := fun hf => by
    unfold saveR
    rw [if_neg (by rw [Hn.out]; simp), if_pos hf]
  have hsv2 : ¬ D.room < (szA (snW (n ++ newN) B) (nowF D) : Int) → saveR D n B = (saveD D n B, 0) := fun hf => by
    unfold saveR
    rw [if_neg (by rw [Hn.out]; simp), if_neg hf]
  have hsv3 : ¬ D.room < (szA (snW (n ++ newN) B) (nowF D) : Int) → _ := fun hf => (hS.save (b := B) Hn.out hf).1
  have hwr := write10_any _ M F _ D (snW (n ++ newN) B) _ _ h2 (hS.sm (by omega) (by omega)) (snW_sm (by omega) (by omega)) rfl hr2 (fun y e e2 => by have e : w1.heap.size ≤ y := e; have := hbd y (.inl e2); have := hB1.size; omega)
  have hm := fun hf => half_sm hS (n := n) (b := B) (by omega) (by omega) (by omega) hf
  obtain ⟨nn, hnn⟩ : ∃ nn, nn = n ++ newN := ⟨_, rfl⟩
  rw [← hnn] at hst hsz hsv1 hsv2 hsv3 hwr hm hnl
  rw [show n ++ (⟨#[46, 110, 101, 119]⟩ : ByteArray) = nn from hnn.symm]
  have hC02 : Ch M w w2 := (Ch.of_below hBB).weaken (fun _ _ e => e.elim)
  have Hnn := hid hnn
  clear hnn h1 ho2 hr2 hB2 hvt1 K1
  by_cases hf : D.room < (szA (snW nn B) (nowF D) : Int)
  · rw [hsz hf] at hwr
    have Hsv := hid (hsv1 hf)
    have Hwr := hid hwr
    clear hst hsz hsv1 hsv2 hsv3 hwr hm hf
    go_wp2_with (fail)
    refine Hwr.out.mono ?_
    rintro e w3 ⟨rfl, hp⟩
    have Hp := hid (IXp.trans hC02 (fun b e => .inl e) (fun b e => .inl e) hp)
    clear hp
    go_wp2
    go_ret
    rw [Hsv.out]
    exact ⟨rfl, Hp.out⟩
  · obtain ⟨s1, s2, s3, s4⟩ := hst hf
    obtain ⟨m1, m2, m3⟩ := hm hf
    rw [s1] at hwr
    have hsd := hsv3 hf
    obtain ⟨d1, hd1⟩ : ∃ d, d = ({ D with pend := [snW nn B] } : Dk) := ⟨_, rfl⟩
    obtain ⟨d2, hd2⟩ : ∃ d, d = ({ D with syn := doneF D.syn (snW nn B) } : Dk) := ⟨_, rfl⟩
    obtain ⟨d3, hd3⟩ : ∃ d, d = ({ D with syn := doneF D.syn (snW nn B), pend := [snR nn n] } : Dk) := ⟨_, rfl⟩
    obtain ⟨d4, hd4⟩ : ∃ d, d = ({ D with syn := doneF (doneF D.syn (snW nn B)) (snR nn n) } : Dk) := ⟨_, rfl⟩
    rw [← hd1] at s2 m1 hwr
    rw [← hd2] at s2 s3 m2
    rw [← hd3] at s3 s4 m3
    rw [← hd4] at s4 hsd
    have Hd4 := hid (show d4.down = false by rw [hd4]; exact Hdn.out)
    clear hd1 hd2 hd3 hd4
    have Hsd := hid hsd
    clear hsd
    have S2 := hid s2
    have S3 := hid s3
    have S4 := hid s4
    clear s2 s3 s4
    have Hsv := hid (hsv2 hf)
    have Hwr := hid hwr
    clear hst hsz hsv1 hsv2 hsv3 hwr hm hf s1
    go_wp2_with (fail)
    refine Hwr.out.mono ?_
    rintro e w3 ⟨rfl, M3, F3, h3, hC3, hM3, hF3⟩
    have h3 : IX w3 (.pointer (some ⟨xd, 0, none⟩)) M3 F3 d1 := h3
    have hsy := sync10_any _ M3 F3 _ snS _ h3 m1 rfl
    rw [S2.out] at hsy
    have Hsy := hid hsy
    clear hsy Hwr
    go_wp2_with (fail)
    refine Hsy.out.mono ?_
    rintro e w4 ⟨rfl, M4, F4, h4, hC4, hM4, hF4⟩
    have h4 : IX w4 (.pointer (some ⟨xd, 0, none⟩)) M4 F4 d2 := h4
    have hrn := rename10_any _ M4 F4 _ (snR nn n) _ h4 m2 (snR_sm2 (by omega) (by omega)) rfl
    rw [S3.out] at hrn
    have Hrn := hid hrn
    clear hrn Hsy
    go_wp2_with (fail)
    rw [show n ++ (⟨#[46, 110, 101, 119]⟩ : ByteArray) = nn from Hnn.out.symm]
    refine Hrn.out.mono ?_
    rintro e w5 ⟨rfl, M5, F5, h5, hC5, hM5, hF5⟩
    have h5 : IX w5 (.pointer (some ⟨xd, 0, none⟩)) M5 F5 d3 := h5
    have hsy := sync10_any _ M5 F5 _ snS _ h5 m3 rfl
    rw [S4.out] at hsy
    have Hsy := hid hsy
    clear hsy Hrn
    go_wp2_with (fail)
    refine Hsy.out.mono ?_
    rintro e w6 ⟨rfl, M6, F6, h6, hC6, hM6, hF6⟩
    have h6 : IX w6 (.pointer (some ⟨xd, 0, none⟩)) M6 F6 d4 := h6
    have hdw := down10_any _ M6 F6 _ _ h6
    rw [Hd4.out] at hdw
    have Hdw := hid hdw
    clear hdw Hsy
    go_wp2_with (fail)
    refine Hdw.out.mono ?_
    rintro e w7 ⟨rfl, hB7⟩
    have Hp := hid (IXp.trans hC02 (fun b e => .inl e) (fun b e => .inl e) (IXp.trans hC3 hM3 hF3 (IXp.trans hC4 hM4 hF4 (IXp.trans hC5 hM5 hF5 (IXp.trans hC6 hM6 hF6 (IXp.refl h6 hB7))))))
    go_wp2
    go_ret
    rw [Hsv.out, Hsd.out]
    exact ⟨rfl, Hp.out⟩
theorem textR_err12 {most : Int} {l : List UInt8} {e : Nat} (h : textR most l = .error e) : e = 1 ∨ e = 2 ∨ e = 3 := by
  unfold textR at h
  cases hc : cntR most (readPk l) with
  | error e' => rw [hc] at h; dsimp only at h; injection h with h; subst h; exact cntR_err hc
  | ok r =>
    obtain ⟨n, z⟩ := r
    rw [hc] at h
    dsimp only at h
    split at h
    · injection h with h; omega
    · cases h
theorem textR_ok12 {most : Int} {l : List UInt8} {n z : Nat} (h : textR most l = .ok (n, z)) : z + n ≤ l.length ∧ (n : Int) ≤ most := by
  unfold textR at h
  cases hc : cntR most (readPk l) with
  | error e' => rw [hc] at h; cases h
  | ok r =>
    obtain ⟨n', z'⟩ := r
    rw [hc] at h
    dsimp only at h
    split at h
    · cases h
    · injection h with h
      injection h with h1 h2
      subst h1; subst h2
      exact ⟨by omega, (cntR_ok hc).2.2⟩
set_option maxRecDepth 100000 in
set_option maxHeartbeats 4000000 in
theorem load12_any (dv : Value) (M F : Nat → Prop) (D : Dk) (n : ByteArray) (w : World) (hK : KS w) (h : IX w dv M F D) (hs : DkSm D) (_hl : D.down = false) (hb : ∀ b, findF (nowF D) n = some b → b.length ≤ 1000000) (hn : n.size ≤ 1000) :
    Calls Tryd.prog 11 #[dv, .string n] w fun e w' => ∃ vt, e = .returned (.tuple #[vt, .int .i64 (loadF (findF (nowF D) n) n).2]) ∧ Rd w' (fun b => w.heap.size ≤ b) vt (bys (loadF (findF (nowF D) n) n).1) ∧ Below w.heap.size w w' := by
  obtain ⟨xd, rfl⟩ := h.ptr
  have Hrf := hid (refusal12_e 0 xd (.inl rfl) n none 0 0 (by omega))
  obtain ⟨R, hR⟩ : ∃ R, R = loadF (findF (nowF D) n) n := ⟨_, rfl⟩
  rw [← hR]
  go_enter Tryd.func11, Tryd.ntmps11
  go_wp2_with (fail)
  refine (Hrf.out _).mono ?_
  rintro e w1 ⟨rfl, hB1⟩
  unfold loadF at hR
  by_cases hnn : named12 n = false
  · rw [if_pos hnn] at hR ⊢
    subst hR
    clear hb hs
    go_wp2
    go_ret2
    exact ⟨_, rfl, Rd.nil _ _, hB1⟩
  rw [if_neg hnn] at hR ⊢
  clear hnn
  have h1 := h.keep (w' := w1) (fun b hb _ => hB1.block b hb) hB1.size
  have hrd := read10_any _ M F D n w1 h1 hs (by simp [maxLen]; omega)
  cases hf : findF (nowF D) n with
  | none =>
    rw [hf] at hR hrd
    dsimp only at hR
    subst hR
    rw [if_neg (by simp)] at hrd
    have Hrd := hid hrd
    clear hrd hb hf
    go_wp2_with (fail)
    refine Hrd.out.mono ?_
    rintro e w2 ⟨vb, rfl, _, hB2⟩
    go_wp2
    go_ret2
    exact ⟨_, rfl, Rd.nil _ _, hB1.trans (hB2.mono hB1.size)⟩
  | some b =>
    have hbl := hb b hf
    rw [hf] at hR hrd
    dsimp only at hR
    rw [if_pos (by rfl)] at hrd
    have Hrd := hid hrd
    have HR := hid hR
    clear hrd hb hf hR hs
    go_wp2_with (fail)
    refine Hrd.out.mono ?_
    rintro e w2 ⟨vb, rfl, hvb, hB2⟩
    have hvb : Rd w2 (fun b => w1.heap.size ≤ b) vb (bys b) := hvb
    have hB12 := hB1.trans (hB2.mono hB1.size)
    go_wp2_with (fail)
    refine (new_any _ b _ _ hvb (by omega)).mono ?_
    rintro e w3 ⟨p, rfl, hp, hr3, hB3⟩
    have hvb3 := hvb.below hB3
    have hB13 := hB12.trans (hB3.mono hB12.size)
    have htx := text_any p _ b 0 65536 w3 hr3 (by omega) (by omega) (by omega)
    rw [List.drop_zero] at htx
    unfold readS at HR
    cases htr : textR 65536 b with
    | error er =>
      rw [htr] at htx HR
      have hR : R = ([], 2) := HR.out
      subst hR
      have hne : ((er : Int) != 0) = true := by
        rw [bne_iff_ne]
        intro e
        have : er = 0 := by omega
        subst this
        have := textR_err12 htr
        omega
      unfold TextPost at htx
      dsimp only at htx
      have Htx := hid htx
      clear htx HR htr
      go_wp2_with (fail)
      refine Htx.out.mono ?_
      rintro e w4 ⟨rfl, hr4, hC4⟩
      have hB4 := Ch.below_of hB13 hC4 (fun k hk => by have e : k = p := hk; have := hB12.size; omega) hB13.size
      go_wp2
      go_ret2
      exact ⟨_, rfl, Rd.nil _ _, hB4⟩
    | ok r =>
      obtain ⟨tn, sz⟩ := r
      rw [htr] at htx HR
      have hok := textR_ok12 htr
      unfold TextPost at htx
      dsimp only at htx HR
      rw [List.drop_zero] at htx
      obtain ⟨tx, htx'⟩ : ∃ tx, tx = (b.drop sz).take tn := ⟨_, rfl⟩
      rw [← htx'] at htx HR
      have hlt : tx.length = tn := by rw [htx', List.length_take, List.length_drop]; omega
      have htl : tx.length ≤ 65536 := by omega
      have Htx := hid htx
      clear htx htr htx' hlt hok
      go_wp2_with (fail)
      refine Htx.out.mono ?_
      rintro e w4 ⟨vt, rfl, hvt, hr4, hC4⟩
      obtain ⟨At, ct, rfl⟩ := hvt.shape
      have hB4 := Ch.below_of hB13 hC4 (fun k hk => by have e : k = p := hk; have := hB12.size; omega) hB13.size
      have hvb4 : Rd w4 (fun b => w1.heap.size ≤ b) vb (bys b) := hvb.keep (fun y hy hf => ⟨hf, (hC4.block y (by have := hB3.size; omega) (fun e => by have e : y = p := e; omega)).trans (hB3.block y hy)⟩)
      have K4 := hK.below hB4
      have hwt := hvt.weak (F' := fun b => w.heap.size ≤ b) (fun b _ hf => by have e : w3.heap.size ≤ b := hf; have := hB13.size; show w.heap.size ≤ b; omega)
      clear hvb hvb3 hr3 hr4 hC4 Htx h1
      go_wp2_with (fail)
      refine (bytesOf12_e _ tx _ _ K4 hvt (by omega)).mono ?_
      rintro e w5 ⟨v5, rfl, ho5, hB5⟩
      have hB45 := hB4.trans (hB5.mono hB4.size)
      have hvb5 := hvb4.below hB5
      have hwt5 := hwt.below hB5
      have hr5 := Rd.of_own ho5
      clear hvb4 hwt hvt K4
      go_wp2_with (fail)
      refine (bytesEq_any b (toldF tx) _ _ _ _ _ hvb5 hr5).mono ?_
      rintro e w6 ⟨rfl, rfl⟩
      by_cases hE : b = toldF tx
      · have hR : R = (tx, 0) := by rw [HR.out, if_pos hE.symm]
        rw [decide_eq_true hE]
        subst hR
        clear HR hE
        go_wp2
        go_ret2
        exact ⟨_, rfl, hwt5, hB45⟩
      · have hR : R = ([], 2) := by rw [HR.out, if_neg (fun e => hE e.symm)]
        rw [decide_eq_false hE]
        subst hR
        clear HR hE
        go_wp2
        go_ret2
        exact ⟨_, rfl, Rd.nil _ _, hB45⟩
end Go.Proofs.YtijhicfegbaadaaDoor
