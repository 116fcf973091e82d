/- QD: layer 7: contracts of PutBatch, by the program and by the document. -/
import Derived.Test.YthdkfcbfjhdpoaaQC
namespace Go.V
open Go.RowKit
def Rq.tb (r : Rq) : List UInt8 := packed r.bt.length ++ r.bt
def bB (l : List Rq) : List UInt8 := packed l.length ++ l.flatMap Rq.tb
theorem len_tb {r : Rq} (hf : r.fm = true) : r.tb.length ≤ 1060 := by
  obtain ⟨_, _, _, _, _, _, _, _, _, _, _, _, _, hg⟩ := fm_bd hf
  have h1 := len_bt r
  have h2 := psz_bd r.bt.length
  unfold Rq.tb
  rw [List.length_append, length_packed]
  omega
theorem fm_g {r : Rq} (hf : r.fm = true) : r.g.length ≤ 1000 := by
  obtain ⟨_, _, _, _, _, _, _, _, _, _, _, _, _, hg⟩ := fm_bd hf
  exact hg
theorem len_flat : ∀ (p : List Rq), (∀ r ∈ p, r.fm = true) → (p.flatMap Rq.tb).length ≤ 1060 * p.length
  | [], _ => by simp
  | r :: p, h => by
    rw [List.flatMap_cons, List.length_append, List.length_cons]
    have h1 := len_tb (h r (by simp))
    have h2 := len_flat p (fun x hx => h x (by simp [hx]))
    omega
theorem len_bB {l : List Rq} (hf : fmB l = true) : (bB l).length ≤ 4250 := by
  obtain ⟨_, h4, hfm, _⟩ := fmB_all hf
  have h1 := len_flat l hfm
  have h2 := psz_bd l.length
  unfold bB
  rw [List.length_append, length_packed]
  omega
end Go.V
namespace Go.Proofs.Ythdkfcbfjhdpoaa
open Go.RowKit Go.V
set_option maxRecDepth 100000 in
set_option maxHeartbeats 2000000 in
theorem putb_true (v : Value) (l : List Rq) (F : Nat → Prop) (w : World) (hv : Rd w F v (rqs l)) (ho : ∀ r ∈ l, in64 r.a ∧ in64 r.b) (hf : fmB l = true) :
    Calls Try.prog 16 #[v] w fun e w' => ∃ v', e = .returned (.tuple #[v', .int .i64 0]) ∧ NewB w w' v' (bB l) := by
  obtain ⟨hn1, hn4, hfm, _⟩ := fmB_all hf
  have hbt := fun W h => fbatch_any v l F W h
  rw [hf] at hbt
  obtain ⟨G, off, cp, rfl⟩ := rqs_spot hv hn1
  have hwn : IntKind.u64.wrap (l.length : Int) = (l.length : Int) := by rw [IntKind.wrap_u64]; omega
  go_enter Try.func16, Try.ntmps16
  go_wp2_with (fail)
  refine (hbt _ hv).mono ?_
  rintro e w1 ⟨rfl, hB1⟩
  clear hbt
  go_wp2_with (fail)
  refine (putp_any _ [] l.length nob _ (Rd.nil _ _) (by omega) (by simp)).mono ?_
  rintro e w2 ⟨v2, rfl, ho2, hB2⟩
  rw [List.nil_append] at ho2
  have hB2' := hB1.trans (hB2.mono hB1.size)
  have hr2 : w2.ownsRow w.heap.size 5 1 v2 (packed l.length ++ (l.take 0).flatMap Rq.tb).length (bvs (packed l.length ++ (l.take 0).flatMap Rq.tb)) := by
    rw [List.take_zero, List.flatMap_nil, List.append_nil]
    exact own_weak ho2 hB1.size
  clear ho2
  go_wp2
  go_loopw [4, 16] (fun bv iv wr => ∃ i : Nat, i ≤ l.length ∧ iv = .int .i64 i ∧ wr.ownsRow w.heap.size 5 1 bv (packed l.length ++ (l.take i).flatMap Rq.tb).length (bvs (packed l.length ++ (l.take i).flatMap Rq.tb)) ∧ Below w.heap.size w wr) (fun _ i _ => l.length - (intOf i).toNat)
  case atStart => exact ⟨0, Nat.zero_le _, rfl, hr2, hB2'⟩
  case round =>
    obtain ⟨i, hi, rfl, hrd, hBr⟩ := hrel
    by_cases hlt : i < l.length
    · obtain ⟨r, hr⟩ : ∃ r, l[i]? = some r := ⟨_, List.getElem?_eq_getElem hlt⟩
      have hI : (i : Int) < (l.length : Int) := by omega
      obtain ⟨u, hu7, hu⟩ := rqs_el (hv.below hBr) hr
      obtain ⟨A1, c1, rfl⟩ := hu.shape
      have hmem := List.mem_of_getElem? hr
      have hrf := hfm r hmem
      obtain ⟨hra, hrb⟩ := ho r hmem
      have hlf := len_flat (l.take i) (fun x hx => hfm x (List.mem_of_mem_take hx))
      have hps := psz_bd l.length
      have Hlen : Hid ((packed l.length ++ (l.take i).flatMap Rq.tb).length ≤ 5000) := by
        show _ ≤ _
        rw [List.length_append, length_packed]
        rw [List.length_take] at hlf
        omega
      have hlb := len_bt r
      have hg := fm_g hrf
      have Htk := hid (take_snoc' hr)
      have hby := fun W h => bytesOf_any r (.slice A1 r.g.length c1) F W h hra hrb hrf
      unfold Rq.v at hby
      clear hr hlf hmem
      go_wp2_with (first | (refine wp_ixa 39 (.tmp 14) (.tmp 16) rfl rfl rfl rfl Try.underlying39 hlt sizeQ ?_) | (refine wp_ld 26 (.tmp 18) rfl rfl rfl hu7 Try.underlying26 rfl sizeQ ?_) | (refine wp_newst 26 6 (.tmp 19) rfl rfl rfl rfl rfl rfl zeroQ (l := r.l (.slice A1 r.g.length c1)) rfl rfl sizeQ (oneQ r _ _ _) (by simp [Act.put]) ?_; intro w8 hq8 hB8 hs8; refine wp_stop ?_))
      have hrd8 := (Rd.of_own hrd).below hB8
      have hu8 := hu.below hB8
      have hB8' := hBr.trans (hB8.mono hBr.size)
      obtain ⟨gq, hgq⟩ : ∃ g, g = wr.heap.size := ⟨_, rfl⟩
      rw [← hgq] at hq8 ⊢
      clear hgq hrd hu hu7 hB8 hs8
      have e0 := hq8.cellAt 0 _ rfl
      have e1 := hq8.cellAt 1 _ rfl
      have e2 := hq8.cellAt 2 _ rfl
      have e3 := hq8.cellAt 3 _ rfl
      have e4 := hq8.cellAt 4 _ rfl
      have e5 := hq8.cellAt 5 _ rfl
      have e6 := hq8.cellAt 6 _ rfl
      refine wp_go ?_
      go_wp2_with (fail)
      refine (hby _ hu8).mono ?_
      rintro e w9 ⟨v9, rfl, ho9, hB9⟩
      have hB9' := hB8'.trans (hB9.mono hB8'.size)
      obtain ⟨A9, c9, rfl⟩ := own_shape ho9
      clear e0 e1 e2 e3 e4 e5 e6
      go_wp2_with (fail)
      refine (putt_any _ _ _ r.bt _ _ _ (hrd8.below hB9) (Rd.of_own ho9) (by have := Hlen.out; omega) (by omega)).mono ?_
      rintro e w10 ⟨v10, rfl, ho10, hB10⟩
      go_wp2
      go_roundw
      case rel =>
        refine ⟨i + 1, by omega, by go_num, ?_, hB9'.trans (hB10.mono hB9'.size)⟩
        rw [Htk.out, List.flatMap_append, List.flatMap_singleton, ← List.append_assoc]
        exact own_weak ho10 hB9'.size
      case measure => simp [intOf]; omega
    · have hi' : i = l.length := by omega
      subst hi'
      have hI : ¬ (l.length : Int) < (l.length : Int) := by omega
      rw [List.take_length] at hrd
      go_wp2
      go_ret2
      exact ⟨_, rfl, hrd, hBr⟩
theorem putb_false (v : Value) (l : List Rq) (F : Nat → Prop) (w : World) (hv : Rd w F v (rqs l)) (hf : fmB l = false) :
    Calls Try.prog 16 #[v] w fun e w' => e = .returned (.tuple #[.slice none 0 0, .int .i64 15]) ∧ Below w.heap.size w w' := by
  have hbt := fun W h => fbatch_any v l F W h
  rw [hf] at hbt
  obtain ⟨G, cp, rfl⟩ := rqs_shape hv
  go_enter Try.func16, Try.ntmps16
  go_wp2_with (fail)
  refine (hbt _ hv).mono ?_
  rintro e w1 ⟨rfl, hB1⟩
  go_wp2
  go_ret2
  exact ⟨rfl, hB1⟩
theorem rputb_false (v : Value) (l : List Rq) (F : Nat → Prop) (w : World) (hv : Rd w F v (rqs l)) (hf : fmB l = false) :
    Calls Try.prog 17 #[v] w fun e w' => e = .returned (.tuple #[.slice none 0 0, .int .i64 15]) ∧ Below w.heap.size w w' := by
  have hbt := fun W h => rfbatch_any v l F W h
  rw [hf] at hbt
  obtain ⟨G, cp, rfl⟩ := rqs_shape hv
  go_enter Try.func17, Try.ntmps17
  go_wp2_with (fail)
  refine (hbt _ hv).mono ?_
  rintro e w1 ⟨rfl, hB1⟩
  go_wp2
  go_ret2
  exact ⟨rfl, hB1⟩
set_option maxRecDepth 100000 in
set_option maxHeartbeats 2000000 in
theorem rputb_true (v : Value) (l : List Rq) (F : Nat → Prop) (w : World) (hv : Rd w F v (rqs l)) (ho : ∀ r ∈ l, in64 r.a ∧ in64 r.b) (hf : fmB l = true) :
    Calls Try.prog 17 #[v] w fun e w' => ∃ v', e = .returned (.tuple #[v', .int .i64 0]) ∧ NewB w w' v' (bB l) := by
  obtain ⟨hn1, hn4, hfm, _⟩ := fmB_all hf
  have hbt := fun W h => rfbatch_any v l F W h
  rw [hf] at hbt
  obtain ⟨G, off, cp, rfl⟩ := rqs_spot hv hn1
  have hwn : IntKind.u64.wrap (l.length : Int) = (l.length : Int) := by rw [IntKind.wrap_u64]; omega
  go_enter Try.func17, Try.ntmps17
  go_wp2_with (fail)
  refine (hbt _ hv).mono ?_
  rintro e w1 ⟨rfl, hB1⟩
  clear hbt
  go_wp2_with (fail)
  refine (refp_any l.length _ (by omega)).mono ?_
  rintro e w2 ⟨v2, rfl, ho2, hB2⟩
  have hB2' := hB1.trans (hB2.mono hB1.size)
  have hr2 : w2.ownsRow w.heap.size 5 1 v2 (packed l.length ++ (l.take 0).flatMap Rq.tb).length (bvs (packed l.length ++ (l.take 0).flatMap Rq.tb)) := by
    rw [List.take_zero, List.flatMap_nil, List.append_nil]
    exact own_weak ho2 hB1.size
  clear ho2
  go_wp2
  go_loopw [4, 5] (fun bv iv wr => ∃ i : Nat, i ≤ l.length ∧ iv = .int .i64 i ∧ wr.ownsRow w.heap.size 5 1 bv (packed l.length ++ (l.take i).flatMap Rq.tb).length (bvs (packed l.length ++ (l.take i).flatMap Rq.tb)) ∧ Below w.heap.size w wr) (fun _ i _ => l.length - (intOf i).toNat)
  case atStart => exact ⟨0, Nat.zero_le _, rfl, hr2, hB2'⟩
  case round =>
    obtain ⟨i, hi, rfl, hrd, hBr⟩ := hrel
    by_cases hlt : i < l.length
    · obtain ⟨r, hr⟩ : ∃ r, l[i]? = some r := ⟨_, List.getElem?_eq_getElem hlt⟩
      have hI : (i : Int) < (l.length : Int) := by omega
      obtain ⟨u, hu7, hu⟩ := rqs_el (hv.below hBr) hr
      obtain ⟨A1, c1, rfl⟩ := hu.shape
      have hmem := List.mem_of_getElem? hr
      have hrf := hfm r hmem
      obtain ⟨hra, hrb⟩ := ho r hmem
      have hlf := len_flat (l.take i) (fun x hx => hfm x (List.mem_of_mem_take hx))
      have hps := psz_bd l.length
      have Hlen : Hid ((packed l.length ++ (l.take i).flatMap Rq.tb).length ≤ 5000) := by
        show _ ≤ _
        rw [List.length_append, length_packed]
        rw [List.length_take] at hlf
        omega
      have hlb := len_bt r
      have hg := fm_g hrf
      have hpb := psz_bd r.bt.length
      have Htk := hid (take_snoc' hr)
      have hby := fun W h => rput7_any r (.slice A1 r.g.length c1) F W h hra hrb hrf
      unfold Rq.v at hby
      obtain ⟨P, hP⟩ : ∃ P, P = packed l.length ++ (l.take i).flatMap Rq.tb := ⟨_, rfl⟩
      rw [← hP] at hrd Hlen
      have HP := hid hP
      clear hr hlf hmem hP
      go_wp2_with (first | (refine wp_ixa 39 (.tmp 20) (.tmp 21) rfl rfl rfl rfl Try.underlying39 hlt sizeQ ?_) | (refine wp_ld 26 (.tmp 22) rfl rfl rfl hu7 Try.underlying26 rfl sizeQ ?_))
      refine (hby _ hu).mono ?_
      rintro e w9 ⟨v9, rfl, ho9, hB9⟩
      have hB9' := hBr.trans (hB9.mono hBr.size)
      obtain ⟨A9, c9, rfl⟩ := own_shape ho9
      go_wp2_with (fail)
      refine (reft_any _ r.bt _ _ (Rd.of_own ho9) (by omega)).mono ?_
      rintro e w10 ⟨v10, rfl, ho10, hB10⟩
      have hB10' := hB9'.trans (hB10.mono hB9'.size)
      have hro := own_bel (own_bel hrd hB9) hB10
      have hL : (packed r.bt.length ++ r.bt).length = psz r.bt.length + r.bt.length := by rw [List.length_append, length_packed]
      rw [hL] at ho10
      obtain ⟨A10, c10, rfl⟩ := own_shape ho10
      have hs10 := (Rd.of_own ho10)
      have HL := hid hL
      clear hL hrd
      go_wp2_with (refine wp_app (.tmp 19) (.tmp 25) slB rfl rfl rfl hro rfl (by rw [← HL.out]; exact hs10.src) (oneCell_bvs _) (by have := Hlen.out; simp only [maxLen]; omega) (by have := Hlen.out; omega) hB10'.size ?_)
      intro v11 w11 ho11 hG11 _
      have hB11 := hB10'.grown hG11 hB10'.size (fun k hk => (hro.lt k hk).1)
      go_wp2
      go_roundw
      case rel =>
        refine ⟨i + 1, by omega, by go_num, ?_, hB11⟩
        rw [Htk.out, List.flatMap_append, List.flatMap_singleton, ← List.append_assoc, ← HP.out]
        have e1 : bvs (P ++ r.tb) = bvs P ++ bvs (packed r.bt.length ++ r.bt) := by unfold Rq.tb bvs; rw [List.map_append]
        have e2 : (P ++ r.tb).length = P.length + (psz r.bt.length + r.bt.length) := by rw [List.length_append, ← HL.out]; rfl
        rw [e1, e2]
        exact ho11
      case measure => simp [intOf]; omega
    · have hi' : i = l.length := by omega
      subst hi'
      have hI : ¬ (l.length : Int) < (l.length : Int) := by omega
      rw [List.take_length] at hrd
      go_wp2
      go_ret2
      exact ⟨_, rfl, hrd, hBr⟩
end Go.Proofs.Ythdkfcbfjhdpoaa
