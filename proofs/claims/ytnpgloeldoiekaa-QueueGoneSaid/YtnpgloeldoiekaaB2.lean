/- B2: layer 16: contract of the document's Add. -/
import Derived.Test.YtnpgloeldoiekaaB1
import Derived.Test.YtnpgloeldoiekaaVW
import Derived.Test.YtnpgloeldoiekaaQ2
namespace Go.V
open Go.RowKit
theorem rdC_out {w : World} {F : Nat → Prop} {g : Nat} : ∀ (l : List Rq) (off : Nat), RdC w F g off (l.flatMap rqD) → ∃ xs : List Value, RqX w F l xs ∧ xs.length = l.length * 7 ∧ w.rangeAt g off xs ∧ ∀ u ∈ xs, u.oneCell' = true
  | [], off, _ => ⟨[], rfl, rfl, fun j v hv => by simp at hv, fun u hu => by simp at hu⟩
  | r :: l, off, h => by
    rw [List.flatMap_cons, rdC_app, len_rqD] at h
    obtain ⟨u, h1, h2⟩ := rdC_rq.1 h.1
    obtain ⟨xs, k1, k2, k3, k4⟩ := rdC_out l (off + 7) h.2
    obtain ⟨A, c, rfl⟩ := Rd.shape h2
    refine ⟨r.l (.slice A r.g.length c) ++ xs, ⟨_, xs, rfl, h2, k1⟩, ?_, fun j v hv => ?_, fun u hu => ?_⟩
    · rw [List.length_append, k2, len_l, List.length_cons]; omega
    · rcases Nat.lt_or_ge j 7 with hj | hj
      · rw [List.getElem?_append_left (by rw [len_l]; exact hj)] at hv
        exact h1 j v hv
      · rw [List.getElem?_append_right (by rw [len_l]; exact hj), len_l] at hv
        have := k3 (j - 7) v hv
        rwa [show off + 7 + (j - 7) = off + j by omega] at this
    · rcases List.mem_append.1 hu with hu | hu
      · simp only [Rq.l, List.mem_cons, List.not_mem_nil, or_false] at hu
        rcases hu with rfl | rfl | rfl | rfl | rfl | rfl | rfl <;> rfl
      · exact k4 u hu
/-- a list of requests as what is appended -/
theorem rqs_src {w : World} {F : Nat → Prop} {A : Option Addr} {c : Nat} {l : List Rq} (h : Rd w F (.slice A l.length c) (rqs l)) : ∃ xs : List Value, RqX w F l xs ∧ Src w A (l.length * 7) xs ∧ ∀ u ∈ xs, u.oneCell' = true := by
  by_cases h0 : l = []
  · subst h0
    exact ⟨[], rfl, ⟨rfl, fun j u hu => by simp at hu⟩, fun u hu => by simp at hu⟩
  · unfold rqs Rd at h
    obtain ⟨A', c', hv, _, _, _, h4⟩ := h
    injection hv with e1 e2 e3
    subst e1
    have hne : l.flatMap rqD ≠ [] := by
      match l, h0 with
      | x :: l, _ => simp [rqD]
    obtain ⟨g, off, hA, _, hc⟩ := h4 hne
    obtain ⟨xs, k1, k2, k3, k4⟩ := rdC_out l off hc
    exact ⟨xs, k1, ⟨k2, fun j u hu => ⟨g, off, hA, k3 j u hu⟩⟩, k4⟩
end Go.V
namespace Go.Proofs.Ytnpgloeldoiekaa
open Go.RowKit Go.V
theorem has_snoc {l : List Rq} {r x : Rq} {i : Nat} (h : l[i]? = some x) : hasQ (l.take (i + 1)) r = (hasQ (l.take i) r || (decide (x.c = r.c) && decide (x.s = r.s))) := by
  unfold hasQ
  rw [take_snoc' h, List.any_append]
  simp
theorem has_of {l : List Rq} {r x : Rq} {i : Nat} (h : l[i]? = some x) (hc : x.c = r.c) (hs : x.s = r.s) : hasQ l r = true := by
  unfold hasQ
  rw [List.any_eq_true]
  exact ⟨x, List.mem_of_getElem? h, by rw [decide_eq_true hc, decide_eq_true hs]; rfl⟩
theorem addL_z {l : List Rq} {r : Rq} (h : addE l r = 0) : addL l r = l ++ [r] := by unfold addL; rw [if_pos h]
theorem addL_e {l : List Rq} {r : Rq} (h : addE l r ≠ 0) : addL l r = l := by unfold addL; rw [if_neg h]
set_option maxRecDepth 100000 in
set_option maxHeartbeats 4000000 in
theorem radd16_any (l : List Rq) (r : Rq) (v u : Value) (F G : Nat → Prop) (w : World) (hl : Rd w F v (rqs l)) (hu : Rd w G u (bys r.g)) (hll : l.length ≤ 12) :
    Calls Try.prog 13 #[v, r.v u] w fun e w' => ∃ v', e = .returned (.tuple #[v', .int .i64 (addE l r)]) ∧ Rd w' (fun b => F b ∨ G b ∨ w.heap.size ≤ b) v' (rqs (addL l r)) ∧ Below w.heap.size w w' := by
  obtain ⟨Al, cl, rfl⟩ := rqs_shape hl
  obtain ⟨Au, cu, rfl⟩ := Rd.shape hu
  have hl := hl.weak (F' := fun b => (F b ∨ G b) ∧ b < w.heap.size) (fun b hb hF => ⟨.inl hF, hb⟩)
  have hu := hu.weak (F' := fun b => (F b ∨ G b) ∧ b < w.heap.size) (fun b hb hF => ⟨.inr hF, hb⟩)
  have hff := hid (fun X (h : Rd X (fun b => (F b ∨ G b) ∧ b < w.heap.size) (.slice Au r.g.length cu) (bys r.g)) => (show Calls Try.prog 26 #[.agg (r.l (.slice Au r.g.length cu)).toArray] X (fun e w' => e = .returned (.bool r.fm) ∧ Below X.heap.size X w') from rformed_any r _ _ X h))
  have b3 := Blk.new' w 32 (r.l (.slice Au r.g.length cu))
  have hB : Below w.heap.size w (w.alloc (.cells (r.l (.slice Au r.g.length cu)).toArray 32)) := (Below.refl _ _).alloc (Nat.le_refl _) _
  have e0 := addL_z (l := l) (r := r)
  have e1 := addL_e (l := l) (r := r)
  have hE : addE l r = if r.fm = false then 15 else if hasQ l r = true then 7 else if 12 ≤ l.length then 4 else 0 := rfl
  obtain ⟨E, hEE⟩ : ∃ E, E = addE l r := ⟨_, rfl⟩
  rw [← hEE] at e0 e1 hE ⊢
  obtain ⟨L, hLL⟩ : ∃ L, L = addL l r := ⟨_, rfl⟩
  rw [← hLL] at e0 e1 ⊢
  have HE := hid hE
  have E0 := hid e0
  have E1 := hid e1
  have hone := one_rq16 r Au r.g.length cu
  have hrv : r.v (.slice Au r.g.length cu) = .agg (r.l (.slice Au r.g.length cu)).toArray := rfl
  rw [hrv]
  have c0 : (r.l (.slice Au r.g.length cu))[0]? = some (.int .i64 r.c) := rfl
  have c1 : (r.l (.slice Au r.g.length cu))[1]? = some (.int .i64 r.s) := rfl
  have hlen : (r.l (.slice Au r.g.length cu)).length = 7 := rfl
  have hX : ∀ (Y : World) (F' : Nat → Prop) (l : List Rq) (xs : List Value), Rd Y F' (.slice Au r.g.length cu) (bys r.g) → RqX Y F' l xs → RqX Y F' (l ++ [r]) (xs ++ r.l (.slice Au r.g.length cu)) := fun _ _ _ _ h1 h2 => RqX.snoc h1 h2
  have HX := hid hX
  obtain ⟨lr, hlr⟩ : ∃ q, q = r.l (.slice Au r.g.length cu) := ⟨_, rfl⟩
  rw [← hlr] at b3 hB hone hff c0 c1 hlen HX ⊢
  have Hlen := hid hlen
  have C0 := hid c0
  have C1 := hid c1
  have Hone := hid hone
  clear hlr hX hrv hEE hLL hE e0 e1 hlen c0 c1 hone
  go_enter Try.func13, Try.ntmps13
  go_wp2_with (first | refine wp_ld 32 (.tmp 3) rfl rfl rfl b3.whole Try.underlying32 rfl (by rw [Hlen.out]; exact sizeRq16) ?_)
  refine (hff.out _ (hu.below hB)).mono ?_
  rintro e w1 ⟨rfl, hB1⟩
  have b3 := b3.below hB1
  have hB := hB.trans (hB1.mono hB.size)
  obtain ⟨g3, hg3⟩ : ∃ g, g = w.heap.size := ⟨_, rfl⟩
  rw [← hg3] at b3 ⊢
  have hg3w : w.heap.size ≤ g3 := by omega
  clear hg3 hB1 hff
  have hold : ∀ Y, Below w1.heap.size w1 Y → Rd Y (fun b => F b ∨ G b ∨ w.heap.size ≤ b) (.slice Al l.length cl) (rqs l) := fun Y h => ((hl.below hB).below h).weak (fun b _ h => by rcases h.1 with h | h; exact .inl h; exact .inr (.inl h))
  have Hold := hid hold
  clear hold
  by_cases hf : r.fm = false
  · have Ef : Hid (E = 15) := hid (HE.out.trans (by rw [if_pos hf]))
    have Lf := hid (E1.out (by rw [Ef.out]; omega))
    rw [hf]
    clear HE E0 E1 hf
    go_wp2
    go_ret2
    exact ⟨_, by rw [Ef.out]; rfl, by rw [Lf.out]; exact Hold.out _ (Below.refl _ _), hB⟩
  · have hft : r.fm = true := by simpa using hf
    rw [hft]
    clear hft
    go_wp2
    go_loopw [6] (fun iv wr => ∃ i : Nat, i ≤ l.length ∧ iv = .int .i64 i ∧ Hid (hasQ (l.take i) r = false) ∧ Below w1.heap.size w1 wr) (fun i _ => l.length - (intOf i).toNat)
    case atStart => exact ⟨0, Nat.zero_le _, rfl, hid rfl, Below.refl _ _⟩
    case round =>
      obtain ⟨i, hi, rfl, hno, hBr⟩ := hrel
      have hBw := hB.trans (hBr.mono hB.size)
      by_cases hlt : i < l.length
      · have hI : (i : Int) < (l.length : Int) := by omega
        obtain ⟨x, hx⟩ : ∃ x, l[i]? = some x := ⟨_, List.getElem?_eq_getElem hlt⟩
        have hlr := hl.below hBw
        obtain ⟨gl, offl, hAl⟩ : ∃ gl offl, Al = some ⟨gl, offl, none⟩ := by
          obtain ⟨gl, offl, c', h⟩ := rqs_spot hlr (by omega)
          injection h with h _ _
          exact ⟨gl, offl, h⟩
        subst hAl
        obtain ⟨ux, hrx, _⟩ := rqs_el hlr hx
        have y0 : wr.cell? ⟨gl, offl + i * 7, none⟩ = some (.int .i64 x.c) := hrx 0 _ rfl
        have y1 : wr.cell? ⟨gl, offl + i * 7 + 1, none⟩ = some (.int .i64 x.s) := hrx 1 _ rfl
        have b3r := b3.below hBr
        have r0 := b3r.cellAt 0 _ C0.out
        have r1 := b3r.cellAt 1 _ C1.out
        have hsn := has_snoc (r := r) hx
        have Hof := hid (fun h1 h2 => has_of (r := r) hx h1 h2)
        rw [hno.out, Bool.false_or] at hsn
        clear hx hlr hrx b3r
        by_cases n1 : x.c = r.c
        · by_cases n2 : x.s = r.s
          · have Ef : Hid (E = 7) := hid (HE.out.trans (by rw [if_neg hf, if_pos (Hof.out n1 n2)]))
            have Lf := hid (E1.out (by rw [Ef.out]; omega))
            rw [n1] at y0
            rw [n2] at y1
            clear HE E0 E1 hf hsn Hof n1 n2
            go_upto_region 6 with (fail)
            go_quiet (fail)
            go_wp2
            go_ret2
            exact ⟨_, by rw [Ef.out]; rfl, by rw [Lf.out]; exact Hold.out _ (by first | exact hBr | exact bel_drewN hBr _), by first | exact hBw | exact bel_drewN hBw _⟩
          · have Hsn := hid (show hasQ (l.take (i + 1)) r = false by rw [hsn, decide_eq_false n2, Bool.and_false])
            have n3 : (x.s == r.s) = false := beq_eq_false_iff_ne.2 n2
            rw [n1] at y0
            clear hsn Hof n1
            go_upto_region 6 with (fail)
            go_quiet (fail)
            go_wp2
            go_roundw
            case rel => exact ⟨i + 1, by omega, by go_num, Hsn, by first | exact hBr | exact bel_drewN hBr _⟩
            case measure => simp [intOf]; omega
        · have Hsn := hid (show hasQ (l.take (i + 1)) r = false by rw [hsn, decide_eq_false n1, Bool.false_and])
          have n3 : (x.c == r.c) = false := beq_eq_false_iff_ne.2 n1
          clear hsn Hof
          go_upto_region 6 with (fail)
          go_quiet (fail)
          go_wp2
          go_roundw
          case rel => exact ⟨i + 1, by omega, by go_num, Hsn, by first | exact hBr | exact bel_drewN hBr _⟩
          case measure => simp [intOf]; omega
      · have hi' : i = l.length := by omega
        subst hi'
        have hI : ¬ (l.length : Int) < (l.length : Int) := by omega
        have hno2 : ¬ hasQ l r = true := by have := hno.out; rw [List.take_length] at this; rw [this]; simp
        by_cases h12 : 12 ≤ l.length
        · have Ef : Hid (E = 4) := hid (HE.out.trans (by rw [if_neg hf, if_neg hno2, if_pos h12]))
          have Lf := hid (E1.out (by rw [Ef.out]; omega))
          have hI2 : (l.length : Int) ≥ 12 := by omega
          clear HE E0 E1 hf hno hno2
          go_wp2
          go_ret2
          exact ⟨_, by rw [Ef.out]; rfl, by rw [Lf.out]; exact Hold.out _ hBr, hBw⟩
        · have Ef : Hid (E = 0) := hid (HE.out.trans (by rw [if_neg hf, if_neg hno2, if_neg h12]))
          have Lf := hid (E0.out Ef.out)
          have hI2 : ¬ (l.length : Int) ≥ 12 := by omega
          clear HE E0 E1 hf hno hno2
          obtain ⟨xs, hxs, hsr, hx1⟩ := rqs_src (hl.below hBw)
          have b3r := b3.below hBr
          have hsz := hBw.size
          go_wp2_with (first | (refine wp_appS (.tmp 41) (.tmp 42) slRq16 rfl rfl rfl (World.ownsRow_nil _ wr.heap.size _ _) rfl hsr hx1 (by simp only [maxLen]; omega) (by omega) (Nat.le_refl _) ?_; intro v4 w4 ho4 hG4 hv4; refine wp_stop ?_))
          rw [List.nil_append, Nat.zero_add] at ho4
          have hB4 : Below wr.heap.size wr w4 := (Below.refl _ _).grown hG4 (Nat.le_refl _) (fun k hk => by cases hk)
          have hxs4 := hxs.keep (F' := fun b => (F b ∨ G b) ∧ b < w.heap.size) (fun b hb hF => ⟨hF, hB4.block b hb⟩)
          have b3r := b3r.below hB4
          have hu4 := (hu.below hBw).below hB4
          refine wp_go ?_
          go_wp2_with (first | refine wp_ld 32 (.tmp 3) rfl rfl rfl b3r.whole Try.underlying32 rfl (by rw [Hlen.out]; exact sizeRq16) ?_ | (refine wp_pushW (.tmp 44) (.tmp 45) 46 slRq16 rfl rfl rfl rfl rfl (us := lr) rfl Hlen.out Hone.out (by simp [Act.put]) rfl ho4 (by simp only [maxLen]; omega) (by omega) hB4.size ?_; intro v5 w5 ho5 hG5 hv5; refine wp_stop ?_))
          have hk5 : ∀ b, b < w.heap.size → w5.heap[b]? = w4.heap[b]? := fun b hb => hG5.block b (Nat.lt_of_lt_of_le hb (Nat.le_trans hsz hB4.size)) (by intro h; have := (ho4.lt b h.symm).1; omega)
          have hB5 := hB4.grown hG5 hB4.size (fun k hk => (ho4.lt k hk).1)
          have hx5 : RqX w5 (fun b => (F b ∨ G b) ∧ b < w.heap.size) (l ++ [r]) (xs ++ lr) := HX.out _ _ _ _ (hu4.keep (fun b _ hF => ⟨hF, hk5 b hF.2⟩)) (hxs4.keep (fun b _ hF => ⟨hF, hk5 b hF.2⟩))
          refine wp_go ?_
          go_wp2
          go_ret2
          refine ⟨_, by rw [Ef.out]; rfl, ?_, hBw.trans (hB5.mono hsz)⟩
          rw [Lf.out]
          refine (rqs_own2 (by rw [List.length_append]; exact ho5) hx5).weak (fun b _ h => ?_)
          rcases h with h | h
          · rcases h.1 with h | h
            · exact .inl h
            · exact .inr (.inl h)
          · exact .inr (.inr (by omega))
end Go.Proofs.Ytnpgloeldoiekaa
