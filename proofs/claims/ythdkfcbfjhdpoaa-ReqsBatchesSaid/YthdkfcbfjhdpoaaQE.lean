/- QE: layer 7: contract of GetBatch, over the bytes of a batch that is formed. -/
import Derived.Test.YthdkfcbfjhdpoaaQD
namespace Go.V
open Go.RowKit
theorem own_keep7 {w w' : World} {base : Nat} {e : TypeId} {s : Nat} {v : Value} {n : Nat} {xs : List Value} (h : w.ownsRow base e s v n xs) (hk : ∀ k, k < w.heap.size → v.ownBlock = some k → w'.heap[k]? = w.heap[k]?) : w'.ownsRow base e s v n xs := by
  obtain ⟨h1, h2⟩ := h
  refine ⟨h1, ?_⟩
  rcases h2 with h | ⟨g, cap, cur, rfl, hg, hh, h3⟩
  · exact .inl h
  · exact .inr ⟨g, cap, cur, rfl, hg, (hk g (lt_of_block hh) rfl).trans hh, h3⟩
def posB (l : List Rq) (i : Nat) : Nat := psz l.length + ((l.take i).flatMap Rq.tb).length
theorem drop_bB (l : List Rq) (i : Nat) : (bB l).drop (posB l i) = (l.drop i).flatMap Rq.tb := by
  have h : bB l = (packed l.length ++ (l.take i).flatMap Rq.tb) ++ (l.drop i).flatMap Rq.tb := by
    unfold bB
    rw [List.append_assoc, ← List.flatMap_append, List.take_append_drop]
  rw [h]
  have hl : posB l i = (packed l.length ++ (l.take i).flatMap Rq.tb).length := by unfold posB; rw [List.length_append, length_packed]
  rw [hl, List.drop_left]
theorem drop_at {l : List Rq} {i : Nat} {r : Rq} (h : l[i]? = some r) : l.drop i = r :: l.drop (i + 1) := by
  obtain ⟨hl, rfl⟩ := List.getElem?_eq_some_iff.1 h
  exact List.drop_eq_getElem_cons hl
theorem posB_succ {l : List Rq} {i : Nat} {r : Rq} (h : l[i]? = some r) : posB l (i + 1) = posB l i + (psz r.bt.length + r.bt.length) := by
  unfold posB
  rw [take_snoc' h, List.flatMap_append, List.flatMap_singleton, List.length_append]
  have ht : r.tb.length = psz r.bt.length + r.bt.length := by unfold Rq.tb; rw [List.length_append, length_packed]
  rw [ht]
  omega
theorem posB_all (l : List Rq) : posB l l.length = (bB l).length := by
  unfold posB bB
  rw [List.take_length, List.length_append, length_packed]
end Go.V
namespace Go.Proofs.Ythdkfcbfjhdpoaa
open Go.RowKit Go.V
theorem slQ : SlW Try.prog 39 26 zQ 7 72 := .of Try.underlying39 (by kernel_rfl) rfl (by omega) (by omega)
theorem text_at {l : List Rq} {i : Nat} {r : Rq} (h : l[i]? = some r) (hf : r.fm = true) : textR 2000 ((bB l).drop (posB l i)) = .ok (r.bt.length, psz r.bt.length) ∧ (((bB l).drop (posB l i)).drop (psz r.bt.length)).take r.bt.length = r.bt := by
  have hg := fm_g hf
  have hl := len_bt r
  rw [drop_bB, drop_at h, List.flatMap_cons]
  have e : r.tb = packed r.bt.length ++ r.bt := rfl
  rw [e]
  refine ⟨textR_of 2000 r.bt _ (by omega) (by omega), ?_⟩
  rw [List.append_assoc, ← length_packed, List.drop_left, List.take_left]
theorem count_at {l : List Rq} (h4 : l.length ≤ 4) : cntR 4 (readPk ((bB l).drop 0)) = .ok (l.length, psz l.length) := by
  rw [List.drop_zero]
  unfold bB
  rw [readPk_packed _ _ (by omega)]
  exact if_neg (by omega)
set_option maxRecDepth 100000 in
set_option maxHeartbeats 4000000 in
theorem getb_any (v : Value) (l : List Rq) (F : Nat → Prop) (w : World) (hv : Rd w F v (bys (bB l))) (ho : ∀ r ∈ l, in64 r.a ∧ in64 r.b) (hf : fmB l = true) :
    Calls Try.prog 18 #[v] w fun e w' => ∃ u, e = .returned (.tuple #[u, .int .i64 0]) ∧ Rd w' (fun b => w.heap.size ≤ b) u (rqs l) ∧ Below w.heap.size w w' := by
  obtain ⟨hn1, hn4, hfm, _⟩ := fmB_all hf
  have hbt := fun u F W h => fbatch_any u l F W h
  rw [hf] at hbt
  have hlb := len_bB hf
  have Hca := hid (count_at hn4)
  have Hpa := hid (posB_all l)
  have htx := fun (i : Nat) (r : Rq) (h : l[i]? = some r) (hf : r.fm = true) => text_at h hf
  have hp0 : posB l 0 = 0 + psz l.length := by unfold posB; rw [List.take_zero, List.flatMap_nil]; simp
  have hps := fun (i : Nat) (r : Rq) (h : l[i]? = some r) => posB_succ h
  obtain ⟨X, hX⟩ : ∃ X, X = bB l := ⟨_, rfl⟩
  rw [← hX] at hv hlb Hca Hpa htx
  clear hX hf
  obtain ⟨A, cp, rfl⟩ := hv.shape
  have Htx := hid htx
  have Hps := hid hps
  clear htx hps
  go_enter Try.func18, Try.ntmps18
  go_wp2_with (fail)
  refine (new_any _ X F _ hv (by omega)).mono ?_
  rintro e w1 ⟨p, rfl, hp, hr1, hB1⟩
  have hpl : p < w1.heap.size := by obtain ⟨_, h, _⟩ := hr1; exact lt_of_block h
  obtain ⟨FF, hFF⟩ : ∃ FF, FF = fun b => w.heap.size ≤ b ∧ b < p := ⟨_, rfl⟩
  rw [← hFF] at hr1
  have hFp : ∀ b, FF b → b < p := fun b h => by rw [hFF] at h; exact h.2
  clear hFF
  have f1 := count_any p FF X 0 4 w1 hr1 (by omega) (by omega)
  rw [Hca.out] at f1
  dsimp only [lenP] at f1
  rw [← hp0] at f1
  have Hf := hid f1
  clear f1 hr1
  go_wp2_with (fail)
  refine Hf.out.mono ?_
  rintro e w2 ⟨rfl, hr2, hC2⟩
  have hB2 := Ch.below_of hB1 hC2 (fun k hk => by have : k = p := hk; omega) hB1.size
  simp only [eCt]
  have hpl2 : p < w2.heap.size := by obtain ⟨_, h, _⟩ := hr2; exact lt_of_block h
  clear Hf
  go_wp2_with (refine wp_mk0W slQ (.const (.int .i64 0)) (.tmp 22) rfl rfl l.length rfl rfl (by omega) (by simp only [maxLen]; omega) ?_; intro w3 ho3 hB3; refine wp_stop ?_)
  have hr3 := hr2.belowR hB3
  have hB3' := hB2.trans (hB3.mono hB2.size)
  obtain ⟨gz, hgz⟩ : ∃ g, g = w2.heap.size := ⟨_, rfl⟩
  rw [← hgz] at ho3 hpl2 ⊢
  have hgw : w.heap.size ≤ gz := by have := hB2.size; omega
  have hgz3 : gz ≤ w3.heap.size := by have := hB3.size; omega
  clear hgz hr2 hB3
  refine wp_go ?_
  go_wp2
  go_loopw [7, 25] (fun lv iv wr => ∃ (i : Nat) (xs : List Value), i ≤ l.length ∧ iv = .int .i64 i ∧ RdR wr p FF X (posB l i) ∧ wr.ownsRow gz 26 7 lv i xs ∧ RqX wr (fun b => gz ≤ b ∧ lv.ownBlock ≠ some b) (l.take i) xs ∧ gz ≤ wr.heap.size ∧ Below w.heap.size w wr) (fun _ i _ => l.length - (intOf i).toNat)
  case atStart => exact ⟨0, [], Nat.zero_le _, rfl, hr3, ho3, rfl, hgz3, hB3'⟩
  case round =>
    obtain ⟨i, xs, hi, rfl, hrr, hor, hxr, hgr, hBr⟩ := hrel
    by_cases hlt : i < l.length
    · obtain ⟨r, hr⟩ : ∃ r, l[i]? = some r := ⟨_, List.getElem?_eq_getElem hlt⟩
      have hI : (i : Int) < (l.length : Int) := by omega
      have hmem := List.mem_of_getElem? hr
      have hrf := hfm r hmem
      obtain ⟨hra, hrb⟩ := ho r hmem
      obtain ⟨hx1, hx2⟩ := Htx.out _ _ hr hrf
      have Hsu := hid (Hps.out _ _ hr)
      have Htk := hid (take_snoc' hr)
      have hge := fun v F W h => get7_any v r F W h hra hrb hrf
      unfold Rq.v at hge
      have t1 := text_any p FF X _ 2000 wr hrr (by omega) (by omega) (by omega)
      rw [hx1] at t1
      unfold TextPost at t1
      dsimp only at t1
      rw [hx2] at t1
      have Ht := hid t1
      clear t1 hrr hx1 hx2 hr hmem
      go_wp2_with (fail)
      refine Ht.out.mono ?_
      rintro e w5 ⟨v5, rfl, hv5, hr5, hC5⟩
      have ho5 := own_keep7 hor (fun k hk h => hC5.block k hk (by intro h'; have : k = p := h'; have := (hor.lt k h).1; omega))
      have hx5 := hxr.keep (fun b hb hF => ⟨hF, hC5.block b hb (by intro h'; have : b = p := h'; have := hF.1; omega)⟩)
      have hB5 := Ch.below_of hBr hC5 (fun k hk => by have : k = p := hk; omega) hBr.size
      have hg5 : gz ≤ w5.heap.size := by have := hC5.size; omega
      clear Ht hor hxr
      go_wp2_with (fail)
      refine (hge _ _ _ hv5).mono ?_
      rintro e w6 ⟨u6, rfl, hu6, hB6⟩
      obtain ⟨A6, c6, rfl⟩ := hu6.shape
      have hr6 := hr5.belowR hB6
      have ho6 := own_bel ho5 hB6
      have hx6 := hx5.keep (fun b hb hF => ⟨hF, hB6.block b hb⟩)
      have hB6' := hB5.trans (hB6.mono hB5.size)
      have hlv := fun k hk => (ho5.lt k hk).2
      clear hr5 ho5 hx5 hge
      go_wp2_with (refine wp_newst 26 10 (.tmp 38) rfl rfl rfl rfl rfl rfl zeroQ (l := r.l (.slice A6 r.g.length c6)) rfl rfl sizeQ (oneQ r _ _ _) (by simp) ?_; intro w7 hq7 hB7 hs7; refine wp_stop ?_)
      have hr7 := hr6.belowR hB7
      have ho7 := own_bel ho6 hB7
      have hx7 := hx6.keep (fun b hb hF => ⟨hF, hB7.block b hb⟩)
      have hu7 := hu6.below hB7
      have hB7' := hB6'.trans (hB7.mono hB6'.size)
      have hg7 : gz ≤ w7.heap.size := by have := hB7.size; have := hB6.size; omega
      obtain ⟨gq, hgq⟩ : ∃ g, g = w6.heap.size := ⟨_, rfl⟩
      rw [← hgq] at hq7 ⊢
      clear hgq hr6 ho6 hx6 hu6 hB7 hs7
      refine wp_go ?_
      go_wp2_with (first | (refine wp_ld 26 (.tmp 10) rfl rfl rfl hq7.whole Try.underlying26 rfl sizeQ ?_) | (refine wp_pushW (.tmp 43) (.tmp 44) 45 slQ rfl rfl rfl rfl rfl (us := r.l (.slice A6 r.g.length c6)) rfl rfl (oneQ r _ _ _) (by simp [Act.put]) rfl ho7 (by simp only [maxLen]; omega) (by omega) hg7 ?_; intro v8 w8 ho8 hG8 hat8; refine wp_stop ?_))
      have hB8 := hB7'.grown hG8 hB7'.size (fun k hk => by have := (ho7.lt k hk).1; omega)
      have hr8 : RdR w8 p FF X (posB l (i + 1)) := by
        rw [Hsu.out]
        obtain ⟨_, hpb, _⟩ := id hr7
        exact RdR.keep hr7 (hG8.block _ (lt_of_block hpb) (by intro h; have := (ho7.lt p h.symm).1; omega)) (fun b hb hF => hG8.block _ hb (by intro h; have := (ho7.lt b h.symm).1; have := hFp b hF; omega))
      have hx8 : RqX w8 (fun b => gz ≤ b ∧ v8.ownBlock ≠ some b) (l.take (i + 1)) (xs ++ r.l (.slice A6 r.g.length c6)) := by
        rw [Htk.out]
        refine RqX.snoc ?_ ?_
        · exact hu7.keep (fun b hb hF => ⟨⟨by omega, by
            rcases hat8 with h | ⟨k, h, hk⟩
            · rw [h]; intro h'; have := hlv b h'; omega
            · rw [h]; intro h'; injection h' with h'; omega⟩, hG8.block b hb (by intro h'; have := hlv b h'.symm; omega)⟩)
        · exact hx7.keep (fun b hb hF => ⟨⟨hF.1, by
            rcases hat8 with h | ⟨k, h, hk⟩
            · rw [h]; exact hF.2
            · rw [h]; intro h'; injection h' with h'; omega⟩, hG8.block b hb (fun h' => hF.2 h'.symm)⟩)
      clear hr7 hx7 hu7 ho7 Htk Hsu
      refine wp_go ?_
      go_wp2
      go_roundw
      case rel =>
        refine ⟨i + 1, _, by omega, by go_num, hr8, ho8, hx8, by have := hG8.size; omega, hB8⟩
      case measure => simp [intOf]; omega
    · have hi' : i = l.length := by omega
      subst hi'
      have hI : ¬ (l.length : Int) < (l.length : Int) := by omega
      rw [Hpa.out] at hrr
      rw [List.take_length] at hxr
      have f1 := done_any p _ X _ _ hrr
      rw [if_neg (Nat.lt_irrefl _)] at f1
      have Hf := hid f1
      have hrd := (rqs_own hor hxr (fun b h => h.1)).ext (Ch.refl nob wr)
      clear f1 hrr hor hxr Htx Hps
      go_wp2_with (fail)
      refine Hf.out.mono ?_
      rintro e _ ⟨rfl, nn, rfl⟩
      have hrd := hrd.ext ((Ch.refl nob wr).drewN nn)
      have hB5 := below_drewN hBr nn
      go_wp2_with (fail)
      refine (hbt _ _ _ hrd).mono ?_
      rintro e w6 ⟨rfl, hB6⟩
      have hrd := hrd.below hB6
      go_wp2
      go_ret2
      exact ⟨_, rfl, hrd.weak (fun b _ h => by omega), hB5.trans (hB6.mono hB5.size)⟩
end Go.Proofs.Ythdkfcbfjhdpoaa
