/- Zp: several texts in one (QK Zp). -/
import Derived.Test.YtnhhbbjkeekneaaGreatDoorM1
import Derived.Test.YtnhhbbjkeekneaaGreatDoorK3
import Derived.Test.YtnhhbbjkeekneaaGreatDoorK4
import Derived.Test.YtnhhbbjkeekneaaGreatDoorCq
/- QK: layer 7: signatures of requests and batches: contracts of Check, CheckBatch. -/
namespace Go.Proofs.YtnhhbbjkeekneaaGreatDoor
open Go.RowKit Go.V
/-- a table's roots, as digests -/
def chk7 (R : List Hx) (r : Rq) : Int := chkR (R.map (·.1)) verE verN r
theorem chk7_nf {R : List Hx} {r : Rq} (h : r.fm = false) : chk7 R r = 15 := if_pos h
theorem chk7_no {R : List Hx} {r : Rq} (h : r.fm = true) (hn : R.length ≤ r.c.toNat) : chk7 R r = 6 := by
  unfold chk7 chkR
  rw [if_neg (by rw [h]; simp), List.getElem?_eq_none (by rw [List.length_map]; exact hn)]
theorem chk7_at {R : List Hx} {r : Rq} {x : Hx} (h : r.fm = true) (hx : R[r.c.toNat]? = some x) : chk7 R r = if verE x.1 r.text r.g ≠ 0 then verE x.1 r.text r.g else if verN x.1 r.text r.g ≠ r.s - 1 then 5 else 0 := by
  unfold chk7 chkR
  rw [if_neg (by rw [h]; simp), List.getElem?_map, hx]
  rfl
theorem verE_in (a b c : List UInt8) : verE a b c = 0 ∨ verE a b c = 5 ∨ verE a b c = 2 := by
  unfold verE
  split
  · split
    · exact .inl rfl
    · exact .inr (.inl rfl)
  · exact .inr (.inr rfl)
theorem sizeKs7 : (Tryz.prog.info? 40).map (·.size) = some 2 := by kernel_rfl
set_option maxRecDepth 100000 in
set_option maxHeartbeats 4000000 in
theorem check7_any (R : List Hx) (r : Rq) (uk ur u : Value) (F G : Nat → Prop) (w : World) (hKS : KS w) (hR : Rd w F ur (wds hxD R)) (hu : Rd w G u (bys r.g)) (ha : in64 r.a) (hb : in64 r.b) :
    Calls Tryz.prog 89 #[.agg #[uk, ur], .agg (r.l u).toArray] w fun e w' => e = .returned (.int .i64 (chk7 R r)) ∧ Below w.heap.size w w' := by
  obtain ⟨A, c, rfl, _, _⟩ := wds_shape hR
  obtain ⟨Au, cu, rfl⟩ := hu.shape
  have b2 := (Blk.new' w 40 [uk, .slice A R.length c]).alloc (.cells (r.l (.slice Au r.g.length cu)).toArray 126)
  have b3 := Blk.new' (w.alloc (.cells #[uk, .slice A R.length c] 40)) 126 (r.l (.slice Au r.g.length cu))
  have hB : Below w.heap.size w ((w.alloc (.cells #[uk, .slice A R.length c] 40)).alloc (.cells (r.l (.slice Au r.g.length cu)).toArray 126)) := ((Below.refl _ _).alloc (Nat.le_refl _) _).alloc (by simp) _
  rw [show (w.alloc (.cells #[uk, .slice A R.length c] 40)).heap.size = w.heap.size + 1 from by simp] at b3
  have hfo := fun X h => (show Calls Tryz.prog 121 #[.agg (r.l (.slice Au r.g.length cu)).toArray] X (fun e w' => e = .returned (.bool r.fm) ∧ Below X.heap.size X w') from formed_any r (.slice Au r.g.length cu) G X h)
  have htx := fun X h => (show Calls Tryz.prog 123 #[.agg (r.l (.slice Au r.g.length cu)).toArray] X (fun e w' => ∃ v', e = .returned v' ∧ NewB X w' v' r.txt) from text7_any r (.slice Au r.g.length cu) G X h ha hb)
  have hl0 : (r.l (.slice Au r.g.length cu))[0]? = some (.int .i64 r.c) := rfl
  have hl1 : (r.l (.slice Au r.g.length cu))[1]? = some (.int .i64 r.s) := rfl
  have hl6 : (r.l (.slice Au r.g.length cu))[6]? = some (.slice Au r.g.length cu) := rfl
  have hll := len_l r (.slice Au r.g.length cu)
  obtain ⟨L, hL⟩ : ∃ L, L = r.l (.slice Au r.g.length cu) := ⟨_, rfl⟩
  rw [← hL] at b2 b3 hB hfo htx hl0 hl1 hl6 hll ⊢
  have hu := hu.below hB
  have hR := hR.below hB
  have hKS := hKS.below hB
  have Hfo := hid hfo
  have Htx := hid htx
  have Hll := hid hll
  clear hfo htx hL hll
  go_enter Tryz.func89, Tryz.ntmps89
  go_wp2_with (first | refine wp_ld 126 (.tmp 3) rfl rfl rfl b3.whole Tryz.underlying126 rfl (by rw [Hll.out]; exact sizeQ) ?_)
  obtain ⟨w0, hw0⟩ : ∃ x, x = (w.alloc (.cells #[uk, .slice A R.length c] 40)).alloc (.cells L.toArray 126) := ⟨_, rfl⟩
  rw [← hw0] at b2 b3 hB hu hR hKS ⊢
  obtain ⟨g3, hg3⟩ : ∃ g, g = w.heap.size + 1 := ⟨_, rfl⟩
  rw [← hg3] at b3 ⊢
  obtain ⟨g2, hg2⟩ : ∃ g, g = w.heap.size := ⟨_, rfl⟩
  rw [← hg2] at b2 ⊢
  clear hw0 hg3 hg2
  refine (Hfo.out _ hu).mono ?_
  rintro e w1 ⟨rfl, hB1⟩
  have b2 := b2.below hB1
  have b3 := b3.below hB1
  have hu := hu.below hB1
  have hR := hR.below hB1
  have hKS := hKS.below hB1
  have hB := hB.trans (hB1.mono hB.size)
  clear hB1
  cases hf : r.fm with
  | false =>
    have Hc := hid (chk7_nf (R := R) hf)
    clear hf b2 b3
    go_wp2
    go_ret
    exact ⟨by rw [Hc.out]; rfl, hB⟩
  | true =>
  obtain ⟨C, S0, _, _, hC, hS0, _, _, hC5, hS1, hS8, _⟩ := fm_bd hf
  have hCt : r.c.toNat = C := by omega
  have c0 := b3.cellAt 0 _ hl0
  rw [hC] at c0
  have c1 := b3.cellAt 1 _ hl1
  have c6 := b3.cellAt 6 _ hl6
  have c21 := b2.cellAt 1 _ rfl
  by_cases hCR : R.length ≤ C
  · have Hc := hid (chk7_no (R := R) hf (by rw [hCt]; exact hCR))
    have hI : (C : Int) ≥ (R.length : Int) := by omega
    clear hf hC hCt
    go_wp2
    go_ret
    exact ⟨by rw [Hc.out]; rfl, hB⟩
  have hI : ¬ (C : Int) ≥ (R.length : Int) := by omega
  have hCl : C < R.length := by omega
  obtain ⟨x, hx⟩ : ∃ x, R[C]? = some x := ⟨_, List.getElem?_eq_getElem hCl⟩
  have hc7 := chk7_at (R := R) hf (by rw [hCt]; exact hx)
  obtain ⟨g, off, cs, hAA, _, hrg, hel⟩ := wd_el hR hx
  subst hAA
  have hcs := hx_open hel
  subst hcs
  have hxl := x.2
  have htt : r.txt = r.text := by unfold Rq.txt; rw [if_pos hf]
  have htl := (len_text r).1
  have hve := verE_in x.1 r.text r.g
  have hkv := fun tv (H : Nat → Prop) Y h1 h2 h3 => kverify_any x.1 tv (.slice Au r.g.length cu) r.text r.g H G Y h1 hxl h2 h3 (by omega)
  rw [htt] at Htx
  obtain ⟨V, hV⟩ : ∃ V, V = verE x.1 r.text r.g := ⟨_, rfl⟩
  obtain ⟨Nn, hN⟩ : ∃ V, V = verN x.1 r.text r.g := ⟨_, rfl⟩
  rw [← hV] at hc7 hve hkv
  rw [← hN] at hc7 hkv
  have hbl : (bvs x.1).length = 32 := by rw [len_bvs]; exact hxl
  obtain ⟨lx, hlx⟩ : ∃ l, l = bvs x.1 := ⟨_, rfl⟩
  rw [← hlx] at hrg hkv hbl
  obtain ⟨T, hT⟩ : ∃ T, T = r.text := ⟨_, rfl⟩
  rw [← hT] at hkv Htx htl
  have Hkv := hid hkv
  have Hc7 := hid hc7
  have hu1 := hu
  have hsw : IntKind.i64.wrap (r.s - 1) = r.s - 1 := IntWalk.i64_in _ ⟨by omega, by omega⟩
  have hCl2 : C < R.length := hCl
  clear hf hC hCt hx hel hlx hV hN hc7 hkv htt hT hxl hS0
  go_wp2
  go_upto_region 5 with (fail)
  have H20 : Hid (∀ Z, Ch nob w1 Z → Z.cell? ⟨g2, 1, none⟩ = some (.slice (some ⟨g, off, none⟩) R.length c)) := fun Z h => (b2.below h.below).cellAt 1 _ rfl
  have H30 : Hid (∀ Z, Ch nob w1 Z → Z.cell? ⟨g3, 0, none⟩ = some (.int .i64 (C : Int))) := fun Z h => (h.below.cell (lt_of_cell c0)).trans c0
  have H36 : Hid (∀ Z, Ch nob w1 Z → Z.cell? ⟨g3, 6, none⟩ = some (.slice Au r.g.length cu)) := fun Z h => (b3.below h.below).cellAt 6 _ hl6
  have HX : Hid (∀ Z, Ch nob w1 Z → Z.rangeAt g (off + C * 32) lx) := fun Z h j v hj => (h.below.cell (lt_of_cell (hrg j v hj))).trans (hrg j v hj)
  have HM : Hid (∀ Z, Ch nob w1 Z → Z.rangeAt g3 0 L) := fun Z h => (b3.below h.below).whole
  refine wp_region_noPanic ?_
  refine wp_region_held_drew (S := Ch nob w1) (by kernel_rfl) ((Ch.refl _ _).drew) (fun hHeld => ?_)
  refine tkP 0 rfl ?_
  refine tkF 1 rfl H20.out ?_
  refine tkP 2 rfl ?_
  refine tkF 3 rfl H30.out ?_
  refine tkY 4 rfl (yi_ixa (by rfl) 25 (.tmp 18) (.tmp 20) (by rfl) (by rfl) (i := C) (by rfl) Tryz.underlying25 hCl2 size25) ?_
  refine tkY 5 rfl (yieldsIf_load_mid (by rfl) 32 (.tmp 21) (by rfl) _ (off + C * 32) (by rfl) _ _ (fun _ hs => HX.out _ hs) Tryz.underlying32 rfl (by rw [hbl]; exact size25)) ?_
  refine tkY 6 rfl (yieldsIf_load_mid (by rfl) 126 (.tmp 3) (by rfl) _ (0) (by rfl) _ _ (fun _ hs => HM.out _ hs) Tryz.underlying126 rfl (by rw [Hll.out]; exact sizeQ)) ?_
  refine tkP 8 rfl ?_
  refine tkF 9 rfl H36.out ?_
  refine rdH 7 rfl (fun K hK => ?_)
  go_simp
  refine (Htx.out _ (hu1.below hHeld.below)).mono ?_
  rintro e' y1 ⟨v7, rfl, ho7, hE1⟩
  have hv7 := Rd.of_own ho7
  obtain ⟨A7, c7, rfl⟩ := own_shape ho7
  refine hK.out _ _ (hHeld.belowR hE1) (fun hHeld => ?_)
  clear hK K
  try simp only [nP]
  refine rdH 10 rfl (fun K hK => ?_)
  go_simp
  refine (Hkv.out _ _ _ (hKS.below hHeld.below) hv7 (hu1.below hHeld.below)).mono ?_
  rintro e' y2 ⟨rfl, hE2⟩
  refine hK.out _ _ (hHeld.belowR hE2) (fun hHeld => ?_)
  clear hK K
  try simp only [nP]
  refine tkP 11 rfl ?_
  refine tkP 12 rfl ?_
  refine tkP 13 rfl ?_
  refine tkP 14 rfl ?_
  refine tkP 15 rfl ?_
  refine wpAnyH_done (by kernel_rfl) ?_ _
  refine NoPanic.normal ?_
  have hB3 := hB.trans (hHeld.below.mono hB.size)
  have c13 : y2.cell? ⟨g3, 1, none⟩ = some (.int .i64 r.s) := (b3.below hHeld.below).cellAt 1 _ hl1
  clear H20 H30 H36 HX HM hHeld hv7 hE1 hE2 c0 c1 c6 c21 b2 b3 hu hR hKS hrg Hkv Htx Hfo hu1
  have hc := Hc7.out
  rcases hve with h0 | h5 | h2
  · subst h0
    rw [if_neg (by simp)] at hc
    by_cases hn : Nn = r.s - 1
    · have hnn : (Nn != r.s - 1) = false := by rw [hn]; simp
      rw [if_neg (by rw [hn]; simp)] at hc
      have Hc := hid hc
      clear hc Hc7 hn
      go_wp2
      go_ret
      exact ⟨by rw [Hc.out]; rfl, hB3⟩
    · have hnn : (Nn != r.s - 1) = true := bne_iff_ne.2 hn
      rw [if_pos hn] at hc
      have Hc := hid hc
      clear hc Hc7 hn
      go_wp2
      go_ret
      exact ⟨by rw [Hc.out]; rfl, hB3⟩
  · subst h5
    rw [if_pos (by decide)] at hc
    have Hc := hid hc
    clear hc Hc7
    go_wp2
    go_ret
    exact ⟨by rw [Hc.out]; rfl, hB3⟩
  · subst h2
    rw [if_pos (by decide)] at hc
    have Hc := hid hc
    clear hc Hc7
    go_wp2
    go_ret
    exact ⟨by rw [Hc.out]; rfl, hB3⟩
theorem txtR_in {X : List UInt8} {r : Rq} (h : txtR X = .ok r) : in64 r.a ∧ in64 r.b := by
  unfold txtR at h
  split at h
  · cases h
  · split at h
    · cases h
    · rename_i a za ha
      split at h
      · cases h
      · rename_i b zb hb
        split at h
        · cases h
        · injection h with h
          subst h
          exact ⟨unfoldZ_bd a (packed_readPk ha).2.1, unfoldZ_bd b (packed_readPk hb).2.1⟩
theorem gtR7_in {X : List UInt8} {r : Rq} (h : gtR7 X = .ok r) : in64 r.a ∧ in64 r.b := by
  unfold gtR7 at h
  split at h
  · cases h
  · split at h
    · cases h
    · rename_i r0 hr0
      split at h
      · cases h
      · split at h
        · cases h
        · split at h
          · injection h with h
            subst h
            exact (txtR_in hr0 : in64 r0.a ∧ in64 r0.b)
          · cases h
theorem it_in {X : List UInt8} {z : Nat} : ∀ {i k : Nat} {l : List Rq}, itR X z i = .ok (l, k) → ∀ r ∈ l, in64 r.a ∧ in64 r.b
  | 0, k, l, h => by rw [itR] at h; injection h with h; injection h with h _; subst h; intro r hr; cases hr
  | i + 1, k, l, h => by
    rw [itR] at h
    split at h
    · cases h
    · rename_i l0 k0 h0
      have ih := it_in h0
      unfold oneR at h
      split at h
      · cases h
      · split at h
        · cases h
        · rename_i r0 hr0
          injection h with h
          injection h with h _
          subst h
          intro r hr
          rcases List.mem_append.1 hr with hr | hr
          · exact ih r hr
          · rw [List.mem_singleton.1 hr]; exact gtR7_in hr0
theorem gb7_in {X : List UInt8} {l : List Rq} (h : gbR7 X = .ok l) : (∀ r ∈ l, in64 r.a ∧ in64 r.b) ∧ fmB l = true := by
  unfold gbR7 at h
  split at h
  · cases h
  · split at h
    · cases h
    · rename_i l0 k0 h0
      split at h
      · cases h
      · split at h
        · rename_i hf
          injection h with h
          subst h
          exact ⟨it_in h0, hf⟩
        · cases h
theorem gb7_pos {X : List UInt8} {e : Nat} (h : gbR7 X = .error e) : e ≠ 0 := by
  unfold gbR7 at h
  split at h
  · rename_i hq
    injection h with h
    subst h
    exact cntR_pos hq
  · rename_i c z hq
    have hit : ∀ i e, itR X z i = .error e → e ≠ 0 := by
      intro i
      induction i with
      | zero => intro e he; rw [itR] at he; cases he
      | succ i ih =>
        intro e he
        rw [itR] at he
        split at he
        · rename_i h0
          injection he with he
          subst he
          exact ih _ h0
        · unfold oneR at he
          split at he
          · rename_i h0
            injection he with he
            subst he
            exact textR_pos h0
          · split at he
            · rename_i h0
              injection he with he
              subst he
              exact gtR7_pos h0
            · cases he
    split at h
    · rename_i h0
      injection h with h
      subst h
      exact hit _ _ h0
    · split at h
      · injection h with h; omega
      · split at h
        · cases h
        · injection h with h; omega
/-- what is said of all signatures: the first that is wrong -/
def chkL (R : List Hx) : List Rq → Int
  | [] => 0
  | r :: l => if chk7 R r ≠ 0 then chk7 R r else chkL R l
theorem chkL_bad {R : List Hx} : ∀ {l : List Rq} {i : Nat} {r : Rq}, l[i]? = some r → (∀ j x, j < i → l[j]? = some x → chk7 R x = 0) → chk7 R r ≠ 0 → chkL R l = chk7 R r
  | [], i, r, h, _, _ => by simp at h
  | y :: l, 0, r, h, _, hn => by
    simp at h
    subst h
    exact if_pos hn
  | y :: l, i + 1, r, h, hz, hn => by
    have h0 := hz 0 y (by omega) rfl
    show (if chk7 R y ≠ 0 then chk7 R y else chkL R l) = _
    rw [if_neg (by rw [h0]; simp)]
    exact chkL_bad (i := i) (by simpa using h) (fun j x hj hx => hz (j + 1) x (by omega) (by simpa using hx)) hn
theorem chkL_ok {R : List Hx} : ∀ {l : List Rq}, (∀ x ∈ l, chk7 R x = 0) → chkL R l = 0
  | [], _ => rfl
  | y :: l, h => by
    show (if chk7 R y ≠ 0 then chk7 R y else chkL R l) = 0
    rw [if_neg (by rw [h y (by simp)]; simp)]
    exact chkL_ok (fun x hx => h x (by simp [hx]))
/-- what CheckBatch tells: the error, the requests -/
def chkb7 (R : List Hx) (X : List UInt8) : Int × List Rq := match gbR7 X with
  | .error e => ((e : Int), [])
  | .ok l => if chkL R l = 0 then (0, l) else (chkL R l, [])
def CbQ (w : World) (T : Int × List Rq) (e : Ending) (w' : World) : Prop := ∃ u, e = .returned (.tuple #[u, .int .i64 T.1]) ∧ Rd w' (fun b => w.heap.size ≤ b) u (rqs T.2) ∧ Below w.heap.size w w'
theorem rqs_nil7 (w : World) (F : Nat → Prop) : Rd w F (.slice none 0 0) (rqs []) := by
  unfold rqs Rd
  exact ⟨none, 0, rfl, Nat.le_refl _, by simp [maxLen], fun _ => rfl, fun h => absurd rfl h⟩
theorem CbQ.err {w w' : World} {T : Int × List Rq} {er : Int} (h : T = (er, [])) (hB : Below w.heap.size w w') : CbQ w T (.returned (.tuple #[.slice none 0 0, .int .i64 er])) w' := by
  subst h
  exact ⟨_, rfl, rqs_nil7 _ _, hB⟩
set_option maxRecDepth 100000 in
set_option maxHeartbeats 4000000 in
theorem checkb7_any (R : List Hx) (X : List UInt8) (uk ur v : Value) (F G : Nat → Prop) (w : World) (hKS : KS w) (hR : Rd w F ur (wds hxD R)) (hv : Rd w G v (bys X)) (hXl : X.length ≤ 1000000) :
    Calls Tryz.prog 59 #[.agg #[uk, ur], v] w (CbQ w (chkb7 R X)) := by
  obtain ⟨A, c, rfl, _, _⟩ := wds_shape hR
  obtain ⟨Av, cv, rfl⟩ := hv.shape
  have b2 := Blk.new' w 40 [uk, .slice A R.length c]
  have hB : Below w.heap.size w (w.alloc (.cells #[uk, .slice A R.length c] 40)) := (Below.refl _ _).alloc (Nat.le_refl _) _
  have hgb := fun Y h => gtBatch7_any (.slice Av X.length cv) X G Y h hXl
  have Hgb := hid hgb
  clear hgb
  have hT : chkb7 R X = match gbR7 X with
    | .error e => ((e : Int), [])
    | .ok l => if chkL R l = 0 then (0, l) else (chkL R l, []) := rfl
  obtain ⟨T, hTT⟩ : ∃ T, T = chkb7 R X := ⟨_, rfl⟩
  rw [← hTT] at hT ⊢
  clear hTT
  have HT := hid hT
  clear hT
  go_enter Tryz.func59, Tryz.ntmps59
  go_wp2_with (fail)
  obtain ⟨w0, hw0⟩ : ∃ x, x = w.alloc (.cells #[uk, .slice A R.length c] 40) := ⟨_, rfl⟩
  rw [← hw0] at b2 hB ⊢
  obtain ⟨g2, hg2⟩ : ∃ g, g = w.heap.size := ⟨_, rfl⟩
  rw [← hg2] at b2 ⊢
  clear hw0 hg2
  have hgb := Hgb.out _ (hv.below hB)
  cases hq : gbR7 X with
  | error e =>
    have hep := gb7_pos hq
    have hne : ((e : Int) != 0) = true := by rw [bne_iff_ne]; omega
    rw [hq] at hgb
    have Ht : Hid (T = ((e : Int), [])) := hid (by rw [HT.out, hq])
    unfold GbQ at hgb
    have Hp := hid hgb
    clear hgb hq hep HT Hgb
    refine Hp.out.mono ?_
    rintro e' w1 ⟨rfl, hB1⟩
    have hB1' := hB.trans (hB1.mono hB.size)
    clear b2 hB1 Hp
    go_wp2
    go_ret2
    exact CbQ.err Ht.out hB1'
  | ok l =>
    obtain ⟨hin, hfb⟩ := gb7_in hq
    have hl4 := (fmB_all hfb).2.1
    rw [hq] at hgb
    unfold GbQ at hgb
    dsimp only at hgb
    have hT1 := HT.out
    rw [hq] at hT1
    dsimp only at hT1
    have HT := hid hT1
    have Hp := hid hgb
    have Hin := hid hin
    clear hgb hq hT1 Hgb hin hfb
    refine Hp.out.mono ?_
    rintro e' w1 ⟨u1, rfl, hu1, hB1⟩
    obtain ⟨A1, c1, rfl⟩ := rqs_shape hu1
    have hB1' := hB.trans (hB1.mono hB.size)
    have b21 := b2.below hB1
    have hs01 := hB.size
    clear b2 hB1 Hp
    go_wp2
    go_loopw [21] (fun iv wr => ∃ i : Nat, i ≤ l.length ∧ iv = .int .i64 i ∧ Hid (∀ j x, j < i → l[j]? = some x → chk7 R x = 0) ∧ Below w1.heap.size w1 wr) (fun i _ => l.length - (intOf i).toNat)
    case atStart => exact ⟨0, Nat.zero_le _, rfl, hid (fun j x hj => absurd hj (Nat.not_lt_zero _)), Below.refl _ _⟩
    case round =>
      obtain ⟨i, hi, rfl, hz, hBr⟩ := hrel
      have hBw := hB1'.trans (hBr.mono hB1'.size)
      have hur := hu1.below hBr
      by_cases hlt : i < l.length
      · have hI : (i : Int) < (l.length : Int) := by omega
        obtain ⟨r, hr⟩ : ∃ r, l[i]? = some r := ⟨_, List.getElem?_eq_getElem hlt⟩
        obtain ⟨g1, off1, hA1⟩ : ∃ gl offl, A1 = some ⟨gl, offl, none⟩ := by
          obtain ⟨gl, offl, c', h⟩ := rqs_spot hur (by omega)
          injection h with h _ _
          exact ⟨gl, offl, h⟩
        subst hA1
        obtain ⟨u, hru, hu⟩ := rqs_el hur hr
        obtain ⟨Au, cu, rfl⟩ := Rd.shape hu
        have hri := Hin.out r (List.mem_of_getElem? hr)
        have hck := fun Y h1 h2 h3 => check7_any R r uk (.slice A R.length c) (.slice Au r.g.length cu) F (fun b => w0.heap.size ≤ b) Y h1 h2 h3 hri.1 hri.2
        have hb1 := fun h => chkL_bad (R := R) hr hz.out h
        have hll := len_l r (.slice Au r.g.length cu)
        have h1L := oneQ r Au r.g.length cu
        obtain ⟨L, hL⟩ : ∃ L, L = r.l (.slice Au r.g.length cu) := ⟨_, rfl⟩
        rw [← hL] at hru hck hll h1L
        obtain ⟨V, hV⟩ : ∃ V, V = chk7 R r := ⟨_, rfl⟩
        rw [← hV] at hck hb1
        have Hck := hid hck
        have Hb1 := hid hb1
        have HV := hid hV
        have Hr := hid hr
        clear hL hck hb1 hV hr hri
        go_wp2_with (first | refine wp_ixa 97 (.tmp 19) (.tmp 21) rfl rfl rfl (i := i) rfl Tryz.underlying97 hlt sizeQ ?_ | refine wp_ld 126 (.tmp 23) rfl rfl rfl hru Tryz.underlying126 rfl (by rw [hll]; exact sizeQ) ?_ | (refine wp_newst 126 9 (.tmp 24) rfl rfl rfl rfl rfl rfl zeroQ (l := L) rfl (by rw [hll]; rfl) (by rw [hll]; exact sizeQ) h1L (by simp [Act.put]) ?_; intro w4 b9 hB4 hs4; refine wp_stop ?_))
        have b24 := (b21.below hBr).below hB4
        have hu4 := hu.below hB4
        have hBr4 := hBr.trans (hB4.mono hBr.size)
        have hBw4 := hBw.trans (hB4.mono hBw.size)
        obtain ⟨g9, hg9⟩ : ∃ g, g = wr.heap.size := ⟨_, rfl⟩
        rw [← hg9] at b9 ⊢
        clear hg9 hs4 hB4 hru hu hur hBr hBw
        refine wp_go ?_
        go_wp2_with (first | refine wp_ld 40 (.tmp 2) rfl rfl rfl b24.whole Tryz.underlying40 rfl sizeKs7 ?_ | refine wp_ld 126 (.tmp 9) rfl rfl rfl b9.whole Tryz.underlying126 rfl (by rw [hll]; exact sizeQ) ?_)
        refine (Hck.out _ (hKS.below hBw4) (hR.below hBw4) hu4).mono ?_
        rintro e w5 ⟨rfl, hB5⟩
        have hBr5 := hBr4.trans (hB5.mono hBr4.size)
        have hBw5 := hBw4.trans (hB5.mono hBw4.size)
        clear b24 b9 hu4 hB5 hBr4 hBw4 Hck
        by_cases hV0 : V = 0
        · have hne : (V != 0) = false := by rw [hV0]; rfl
          have Hz2 : Hid (∀ j x, j < i + 1 → l[j]? = some x → chk7 R x = 0) := hid (fun j x hj hx => by
            rcases Nat.lt_or_ge j i with h | h
            · exact hz.out j x h hx
            · have e : j = i := by omega
              subst e
              have := Hr.out.symm.trans hx
              injection this with this
              subst this
              rw [← HV.out, hV0])
          clear hV0 Hb1 HV Hr
          go_wp2
          go_roundw
          case rel => exact ⟨i + 1, by omega, by go_num, Hz2, hBr5⟩
          case measure => simp [intOf]; omega
        · have hne : (V != 0) = true := bne_iff_ne.2 hV0
          have Ht : Hid (T = (V, [])) := hid (by rw [HT.out, Hb1.out hV0, if_neg hV0])
          clear hV0 Hb1 HV Hr HT
          go_wp2
          go_ret2
          exact CbQ.err Ht.out hBw5
      · have hi' : i = l.length := by omega
        subst hi'
        have hI : ¬ (l.length : Int) < (l.length : Int) := by omega
        have Ht : Hid (T = (0, l)) := hid (by
          rw [HT.out, if_pos (chkL_ok (fun x hx => by
            obtain ⟨j, hj⟩ := List.getElem?_of_mem hx
            exact hz.out j x (List.getElem?_eq_some_iff.1 hj).1 hj))])
        clear hz HT
        go_wp2
        go_ret2
        rw [Ht.out]
        exact ⟨_, rfl, hur.weak (fun b _ h => Nat.le_trans hs01 h), hBw⟩
end Go.Proofs.YtnhhbbjkeekneaaGreatDoor
/- Zp: layer 19, pure: what a member tells when it goes on, and what follows from it. No project text. -/
namespace Go.Proofs.YtnhhbbjkeekneaaGreatDoor
open Go.RowKit Go.V
/-- what a member tells: the last slot; whether it binds, by which regency, to which batch -/
structure Bd where
  l : Int
  h : Bool
  r : Int
  d : List UInt8
  b : List UInt8
def z32 : List UInt8 := List.replicate 32 0
def zBd : Bd := ⟨0, false, 0, z32, []⟩
def bdL (x : Bd) (u : Value) : List Value := [.int .i64 x.l, .bool x.h, .int .i64 x.r] ++ bvs x.d ++ [u]
def tdL (x : Bd) (u : Value) (e : Int) : List Value := bdL x u ++ [.int .i64 e]
/-- the greatest regency below n in which the parts prove the body's digest for the next slot -/
def regC (ks : List (List UInt8)) (V : Vc) (m : Mg) : Nat → Option Nat
  | 0 => none
  | n + 1 => if wriC ks V (n : Int) (m.s + 1) (shaF m.b) m.ps = 0 then some n else regC ks V m n
def regN (m : Mg) : Nat := min m.r.toNat 41
/-- what Valid tells: the error, what is told -/
def valC (ks : List (List UInt8)) (R : List Hx) (V : Vc) (first : Int) (m : Mg) : Int × Bd :=
  if m.k ≠ 5 then (15, zBd) else if m.v ≠ V.n then (9, zBd) else if m.s < first - 1 then (8, zBd) else if 16 < m.ps.length then (12, zBd)
  else if first ≤ m.s ∧ (decC ks V m.s m.h m.ps).2 ≠ 0 then ((decC ks V m.s m.h m.ps).2, zBd)
  else if m.b.length = 0 then (0, ⟨m.s, false, 0, z32, []⟩)
  else if (chkb7 R m.b).1 ≠ 0 then ((chkb7 R m.b).1, zBd)
  else match regC ks V m (regN m) with
    | none => (12, zBd)
    | some r => (0, ⟨m.s, true, (r : Int), shaF m.b, m.b⟩)
theorem len_bd {x : Bd} (h : x.d.length = 32) (u : Value) : (bdL x u).length = 36 := by unfold bdL; simp [len_bvs, h]
theorem one_td {x : Bd} {A : Option Addr} {n c : Nat} {e : Int} : ∀ v ∈ tdL x (.slice A n c) e, v.oneCell' = true := by
  intro v hv
  unfold tdL bdL at hv
  simp only [List.mem_append, List.mem_cons, List.not_mem_nil, or_false] at hv
  rcases hv with (((rfl | rfl | rfl) | h) | rfl) | rfl
  · rfl
  · rfl
  · rfl
  · exact oneCell_bvs _ v h
  · rfl
  · rfl
/-- what the document's Valid answers -/
def VdQ (w : World) (T : Int × Bd) (e : Ending) (w' : World) : Prop := ∃ u, e = .returned (.agg (tdL T.2 u T.1).toArray) ∧ Rd w' (fun b => w.heap.size ≤ b) u (bys T.2.b) ∧ Below w.heap.size w w'
theorem VdQ.err {w w' : World} {T : Int × Bd} {er : Int} (h : T = (er, zBd)) (hB : Below w.heap.size w w') : VdQ w T (.returned (.agg (tdL zBd (.slice none 0 0) er).toArray)) w' := by
  subst h
  exact ⟨_, rfl, Rd.nil _ _, hB⟩
theorem dec2 (ks : List (List UInt8)) (V : Vc) (s : Int) (h : List UInt8) (P : List (List UInt8)) : (decC ks V s h P).2 = 0 ∨ (decC ks V s h P).2 = 12 := by
  unfold decC
  split
  · split
    · exact .inl rfl
    · exact .inr rfl
  · exact .inr rfl
end Go.Proofs.YtnhhbbjkeekneaaGreatDoor
