/- BM: several texts in one (BT BV BU BM). -/
import Derived.Test.YtnpgloeldoiekaaBS
import Derived.Great.Walk
import Derived.Test.YtnpgloeldoiekaaB3
/- BT: layer 16: contracts of queue: All, Len. -/
namespace Go.Proofs.Ytnpgloeldoiekaa
open Go.RowKit Go.V Go.Maps
/-- a row of requests of one's own, whose signatures lie beside it -/
structure OQ (w : World) (base : Nat) (ov : Value) (l : List Rq) (xs : List Value) : Prop where
  own : w.ownsRow base 32 7 ov l.length xs
  x : RqX w (fun b => base ≤ b ∧ ov.ownBlock ≠ some b) l xs
theorem OQ.nil (w : World) (base : Nat) : OQ w base (.slice none 0 0) [] [] := ⟨World.ownsRow_nil _ _ _ _, rfl⟩
theorem OQ.below {w w' : World} {base : Nat} {ov : Value} {l : List Rq} {xs : List Value} (h : OQ w base ov l xs) (hB : Below w.heap.size w w') : OQ w' base ov l xs :=
  ⟨own_bel h.own hB, h.x.keep (fun b hb hf => ⟨hf, hB.block b hb⟩)⟩
theorem OQ.push {w w' : World} {base : Nat} {ov v' u : Value} {l : List Rq} {xs : List Value} {m : Rq} (h : OQ w base ov l xs) (hu : Rd w (fun b => base ≤ b ∧ ov.ownBlock ≠ some b) u (bys m.g))
    (ho : w'.ownsRow base 32 7 v' (l.length + 1) (xs ++ m.l u)) (hG : w.grownBy w' ov.ownBlock) (hd : v'.ownBlock = ov.ownBlock ∨ ∃ g, v'.ownBlock = some g ∧ w.heap.size ≤ g) : OQ w' base v' (l ++ [m]) (xs ++ m.l u) := by
  have hk : ∀ b, b < w.heap.size → base ≤ b ∧ ov.ownBlock ≠ some b → (base ≤ b ∧ v'.ownBlock ≠ some b) ∧ w'.heap[b]? = w.heap[b]? := fun b hb h1 =>
    ⟨⟨h1.1, fun e2 => hd.elim (fun hd => h1.2 (by rw [← hd]; exact e2)) (fun ⟨g, hd, hg⟩ => by rw [hd] at e2; injection e2 with e2; omega)⟩, hG.block b hb (fun e2 => h1.2 e2.symm)⟩
  exact ⟨by rw [List.length_append]; exact ho, RqX.snoc (hu.keep hk) (h.x.keep hk)⟩
theorem OQ.rd {w : World} {base : Nat} {ov : Value} {l : List Rq} {xs : List Value} (h : OQ w base ov l xs) : Rd w (fun b => base ≤ b) ov (rqs l) := rqs_own h.own h.x (fun _ h => h.1)
theorem ky_at {l : List Rq} {i : Nat} {r : Rq} (h : l[i]? = some r) : (l.map ky16)[i]? = some (ky16 r) := by rw [List.getElem?_map, h]; rfl
set_option maxHeartbeats 1000000 in
theorem qlen16_any (v : Value) (M : Nat → Prop) (l : List Rq) (w : World) (h : QX w v M l) :
    Calls Try.prog 20 #[v] w fun e w' => e = .returned (.int .i64 (l.length : Int)) ∧ Below w.heap.size w w' := by
  obtain ⟨p, b, ov, Fs, rfl, hm, hM⟩ := h
  obtain ⟨Ao, co, rfl⟩ := own_shapeW hm.row
  have c0 := hm.blk.cellAt 0 _ rfl
  clear hm hM
  go_enter Try.func20, Try.ntmps20
  go_wp2
  go_ret
  exact ⟨rfl, Below.refl _ _⟩
set_option maxRecDepth 100000 in
set_option maxHeartbeats 8000000 in
theorem qall16_any (v : Value) (M : Nat → Prop) (l : List Rq) (w : World) (h : QX w v M l) :
    Calls Try.prog 19 #[v] w fun e w' => ∃ v', e = .returned v' ∧ Rd w' (fun b => w.heap.size ≤ b) v' (rqs l) ∧ Below w.heap.size w w' := by
  obtain ⟨p, b, ov, Fs, rfl, hm, hM⟩ := h
  obtain ⟨Ao, co, rfl⟩ := own_shapeW hm.row
  have c0 := hm.blk.cellAt 0 _ rfl
  have hlen := hm.qin.len
  have Hfm := hid hm.qin.fm
  have Hfi := hid (fun (r : Rq) (hr : r ∈ l) => ent_find hm.qin hr)
  have hpl := hm.blk.lt
  have hbl := hm.map.lt
  have hFw : ∀ x, Fs x → x < w.heap.size := fun x h => (hm.f x h).2.2.2
  clear hM
  go_enter Try.func19, Try.ntmps19
  go_wp2
  clear c0
  go_loopw [3, 13] (fun ov iv wr => ∃ i : Nat, i ≤ l.length ∧ iv = .int .i64 i ∧ Hid (∃ xs, OQ wr w.heap.size ov (l.take i) xs) ∧ Below w.heap.size w wr) (fun _ i _ => l.length - (intOf i).toNat)
  case atStart => exact ⟨0, Nat.zero_le _, rfl, ⟨[], by rw [List.take_zero]; exact OQ.nil _ _⟩, Below.refl _ _⟩
  case round =>
    obtain ⟨i, hi, rfl, hovx, hBr⟩ := hrel
    obtain ⟨xs, hov⟩ := hovx.out
    clear hovx
    by_cases hlt : i < l.length
    · obtain ⟨d, hd⟩ : ∃ d, l[i]? = some d := ⟨_, List.getElem?_eq_getElem hlt⟩
      have hI : (i : Int) < (l.length : Int) := by omega
      have hdm := List.mem_of_getElem? hd
      have hdsm : d.g.length ≤ 1000000 := by have := fm_in (Hfm.out d hdm); omega
      have hxs := Hfi.out d hdm
      obtain ⟨hr0, hr1⟩ := rows_at (l.map ky16) i _ (ky_at hd)
      obtain ⟨x, hx⟩ : ∃ x, x = ky16 d := ⟨_, rfl⟩
      rw [← hx] at hxs hr0 hr1
      have hmr := hm.below hBr
      have hrk := hmr.row
      obtain ⟨gk, cK, hgk, _, _, hrg⟩ := ownW_range hrk (by omega)
      injection hgk with hgk hgk1 hgk2
      clear hgk1 hgk2
      subst hgk
      have hrx : wr.rangeAt gk (0 + i * 2) [.int .i64 x.1.1, .int .i64 x.1.2] := range_part hrg (fun j v hj => by
        match j, hj with
        | 0, hj => simp at hj; subst hj; rw [show 0 + i * 2 + 0 = 2 * i from by omega]; exact hr0
        | 1, hj => simp at hj; subst hj; rw [show 0 + i * 2 + 1 = 2 * i + 1 from by omega]; exact hr1
        | j + 2, hj => simp at hj)
      have Hnx := hid (take_snoc' hd)
      have hQl : (l.take i).length ≤ 12 := by rw [List.length_take]; omega
      obtain ⟨Q, hQ⟩ : ∃ Q, Q = l.take i := ⟨_, rfl⟩
      rw [← hQ] at hov hQl Hnx
      clear hQ hd hdm hr0 hr1 hrg hx hrk
      go_wp2_with (first | refine wp_ixa 56 (.tmp 11) (.tmp 13) rfl rfl rfl rfl Try.underlying56 hlt sizePl ?_ | refine wp_ld 60 (.tmp 15) rfl rfl rfl hrx Try.underlying60 rfl sizePl ?_ | (refine wp_newst 60 5 (.tmp 16) rfl rfl rfl rfl rfl rfl zeroPl (l := [.int .i64 x.1.1, .int .i64 x.1.2]) rfl rfl sizePl (by simp [Value.oneCell']) (by simp [Act.put]) ?_; intro w6 hK6 hB6 hs6; refine wp_stop ?_))
      have hov6 := hov.below hB6
      have hm6 := hmr.below hB6
      have hBr6 := hBr.trans (hB6.mono hBr.size)
      obtain ⟨gq, hgq⟩ : ∃ g, g = wr.heap.size := ⟨_, rfl⟩
      have hown := fun k h => (hov.own.lt k h).2
      rw [← hgq] at hK6 hown ⊢
      clear hgq hs6 hrx hov hmr hBr hB6
      refine wp_go ?_
      go_upto_region 7 with (fail)
      obtain ⟨wq, hwq⟩ : ∃ wq, wq = w6 := ⟨_, rfl⟩
      rw [← hwq] at hov6 hm6 hBr6 hK6 ⊢
      clear hwq
      have ho := hov6.own
      have hx0 := hov6.x
      have hBq := hBr6
      have hnp : ∀ y, y < w.heap.size → ¬ u3.ownBlock = some y := fun y hy e => by have := (ho.lt y e).1; omega
      have HC : Hid (∀ W, Ch (fun x => u3.ownBlock = some x) wq W → W.cell? ⟨p, 1, none⟩ = some (.map (some b))) := hid fun W hc => (hm6.blk.ch hc (hnp p hpl)).cellAt 1 _ rfl
      have HK : Hid (∀ W, Ch (fun x => u3.ownBlock = some x) wq W → W.rangeAt gq 0 [.int .i64 x.1.1, .int .i64 x.1.2]) := hid fun W hc => (hK6.ch hc (fun e => by have := hown gq e; omega)).whole
      have HM : Hid (∀ W, Ch (fun x => u3.ownBlock = some x) wq W → MS qM W Fs b (ent l)) := hid fun W hc => hm6.map.keep (hc.block b hm6.map.lt (hnp b hbl)) (fun y hy hF => ⟨hF, hc.block y hy (hnp y (hFw y hF))⟩)
      refine wp_region_noPanic ?_
      refine wp_region_held_drew (S := Ch (fun x => u3.ownBlock = some x) wq) (by kernel_rfl) ((Ch.refl _ _).drew) (fun hHeld => ?_)
      refine wpAnyH_take (i := 0) (oi := ⟨some 17, _, _, _, _, none⟩) (v := ?_) rfl (by kernel_rfl) (by kernel_rfl) (by kernel_rfl) (fun _ _ _ h => h) (Or.inl ⟨by rfl, ?_⟩) (by assumption) ?_
      rotate_left
      · intro w hSw; go_simp; try with_reducible rfl
      try simp only [Act.put, List.setIfInBounds_toArray, List.set_cons_zero, List.set_cons_succ]
      refine wpAnyH_take (i := 1) (oi := ⟨some 18, _, _, _, _, none⟩) (v := ?_) rfl (by kernel_rfl) (by kernel_rfl) (by kernel_rfl) (fun _ _ _ h => h) (Or.inl ⟨by rfl, ?_⟩) (by assumption) ?_
      rotate_left
      · intro w hSw; go_simp; try with_reducible rfl
      try simp only [Act.put, List.setIfInBounds_toArray, List.set_cons_zero, List.set_cons_succ]
      refine wpAnyH_take (i := 2) (oi := ⟨some 19, _, _, _, _, none⟩) (v := ?_) rfl (by kernel_rfl) (by kernel_rfl) (by kernel_rfl) (fun _ _ _ h => h) (Or.inl ⟨by rfl, ?_⟩) (by assumption) ?_
      rotate_left
      · intro w hSw; go_simp; try with_reducible rfl
      try simp only [Act.put, List.setIfInBounds_toArray, List.set_cons_zero, List.set_cons_succ]
      refine wpAnyH_take (i := 3) (oi := ⟨some 20, _, _, _, _, none⟩) (v := ?_) rfl (by kernel_rfl) (by kernel_rfl) (by kernel_rfl) (fun _ _ _ h => h) (Or.inl ⟨by rfl, ?_⟩) (by assumption) ?_
      rotate_left
      · intro w hSw; go_simp; try with_reducible rfl
      try simp only [Act.put, List.setIfInBounds_toArray, List.set_cons_zero, List.set_cons_succ]
      refine wpAnyH_take (i := 4) (oi := ⟨some 21, _, _, _, _, none⟩) (v := ?_) rfl (by kernel_rfl) (by kernel_rfl) (by kernel_rfl) (fun _ _ _ h => h) (Or.inl ⟨by rfl, ?_⟩) (by assumption) ?_
      rotate_left
      · intro w hSw; have hcw := HC.out w hSw; go_simp; try with_reducible rfl
      try simp only [Act.put, List.setIfInBounds_toArray, List.set_cons_zero, List.set_cons_succ]
      refine wpAnyH_take (i := 5) (oi := ⟨some 22, .load 60 (.tmp 5), _, _, _, none⟩) (v := _) rfl (by kernel_rfl) (by kernel_rfl) (by kernel_rfl) (fun _ _ _ h => h) (yieldsIf_load_mid (by rfl) 60 (.tmp 5) (by rfl) _ (0) (by rfl) _ _ (fun _ hs => HK.out _ hs) Try.underlying60 rfl (sizePl)) (by assumption) ?_
      try simp only [Act.put, List.setIfInBounds_toArray, List.set_cons_zero, List.set_cons_succ]
      refine wpAnyH_ready (rs := [6]) (by kernel_rfl) (by simp) ?_
      refine AllReadyH.cons (o := ⟨some 23, .lookup _ _ _ _, _, _, _, none⟩) rfl (fun K hK => ?_) AllReadyH.nil
      refine step_lookS 55 32 (.tmp 21) (.tmp 22) false (by rfl) (by rfl) Try.underlying55 (zReq16 _) (by rfl) (HM.out _ hHeld) (s := x) (by rfl) ?_ ?_
      · intro h; rw [hxs] at h; cases h
      intro d2 v hd2 hv2
      rw [hxs] at hd2
      injection hd2 with hd2
      subst hd2
      rw [if_neg (by simp)]
      obtain ⟨ub2, rfl, hub2⟩ := hv2
      obtain ⟨A6, c6, rfl⟩ := hub2.shape
      refine hK.out _ _ (hHeld) (fun hHeld => ?_)
      clear hK K
      try simp only [Act.put, List.setIfInBounds_toArray, List.set_cons_zero, List.set_cons_succ]
      refine wpAnyH_ready (rs := [7]) (by kernel_rfl) (by simp) ?_
      refine AllReadyH.cons (o := ⟨some 24, _, _, _, _, none⟩) rfl (fun K hK => ?_) AllReadyH.nil
      go_simp
      refine (copied16_any d (.slice A6 d.g.length c6) Fs _ hub2 hdsm).mono ?_
      rintro e' w7 ⟨vb, rfl, hr7, hB7⟩
      obtain ⟨A8, c8, rfl⟩ := hr7.shape
      have hs7 := hHeld.size
      have hC7 := hHeld.belowR hB7
      have ho7 := own_bel (own_keepO ho (w' := wq.drew) (fun k _ _ => rfl)) hB7
      have hx7 := (hx0.keep (w := wq) (w' := wq.drew) (F' := fun b => w.heap.size ≤ b ∧ u3.ownBlock ≠ some b) (fun b hb hF => ⟨hF, rfl⟩)).keep (w' := w7) (F' := fun b => w.heap.size ≤ b ∧ u3.ownBlock ≠ some b) (fun b hb hF => ⟨hF, hB7.block b hb⟩)
      refine hK.out _ _ (hC7) (fun hHeld => ?_)
      clear hK K
      try simp only [Act.put, List.setIfInBounds_toArray, List.set_cons_zero, List.set_cons_succ]
      refine wpAnyH_ready (rs := [8]) (by kernel_rfl) (by simp) ?_
      refine AllReadyH.cons (o := ⟨some 25, .buildSlice _ _ _, _, _, _, none⟩) rfl (fun K hK => ?_) AllReadyH.nil
      refine step_bsW (.tmp 24) slRq16 (by rfl) (by rfl) (us := d.l (.slice A8 d.g.length c8)) (by rfl) (len_l _ _) ?_
      refine hK.out _ _ (hC7.grow (World.grownBy_alloc _ _ none) (fun k hk => by cases hk)) (fun hHeld => ?_)
      clear hK K
      try simp only [Act.put, List.setIfInBounds_toArray, List.set_cons_zero, List.set_cons_succ]
      refine wpAnyH_ready (rs := [9]) (by kernel_rfl) (by simp) ?_
      refine AllReadyH.cons (o := ⟨some 26, _, _, _, _, none⟩) rfl (fun K hK => ?_) AllReadyH.nil
      refine step_appW13 (.tmp 17) (.tmp 25) slRq16 (by rfl) (by rfl) (us := d.l (.slice A8 d.g.length c8)) (len_l _ _) one_l16 (by rfl) ho7 (by rfl) (by simp only [maxLen]; omega) (by omega) (Nat.le_trans hBq.size hC7.size) ?_
      intro v9 w9 ho9 hG9 hd9
      refine hK.out _ _ (hC7.grow hG9 (fun k hk => .inl hk)) (fun hHeld => ?_)
      clear hK K
      try simp only [Act.put, List.setIfInBounds_toArray, List.set_cons_zero, List.set_cons_succ]
      refine wpAnyH_take (i := 10) (oi := ⟨some 3, _, _, _, _, none⟩) (v := ?_) rfl (by kernel_rfl) (by kernel_rfl) (by kernel_rfl) (fun _ _ _ h => h) (Or.inl ⟨by rfl, ?_⟩) (by assumption) ?_
      rotate_left
      · intro w hSw; go_simp; try with_reducible rfl
      try simp only [Act.put, List.setIfInBounds_toArray, List.set_cons_zero, List.set_cons_succ]
      refine wpAnyH_done (by kernel_rfl) ?_ _
      refine NoPanic.normal ?_
      have hov9 := (OQ.mk ho7 hx7).push (u := .slice A8 d.g.length c8) (m := d) (hr7.weak (fun y _ h => ⟨Nat.le_trans hBq.size h, fun e => by have := (ho.lt y e).2; have h' : wq.heap.size ≤ y := h; omega⟩)) ho9 hG9 hd9
      rw [← Hnx.out] at hov9
      have hB9 : Below w.heap.size w w9 := Ch.below_of hBr6 hHeld (fun k hk => (ho.lt k hk).1) hBr6.size
      have Hov9 := hid hov9
      have HB9 := hid hB9
      clear hov9 hB9 HC HK HM hHeld hov6 hm6 hBr6 hK6 ho hx0 hBq hnp ho7 hx7 hr7 hB7 hC7 ho9 hG9 hd9 hub2
      go_wp2
      go_roundw
      case rel => exact ⟨i + 1, by omega, by go_num, ⟨_, Hov9.out⟩, HB9.out⟩
      case measure => simp [intOf]; omega
    · have hi' : i = l.length := by omega
      subst hi'
      have hI : ¬ (l.length : Int) < (l.length : Int) := by omega
      rw [List.take_length] at hov
      have hrd := hov.rd
      clear hov hm
      go_wp2
      go_ret
      exact ⟨_, rfl, hrd, hBr⟩
end Go.Proofs.Ytnpgloeldoiekaa
/- BV: layer 16: contract of queue: Batch. -/
namespace Go.Proofs.Ytnpgloeldoiekaa
open Go.RowKit Go.V Go.Maps
/-- each client's last number, behind those that were taken -/
structure GQ (a : List Rp) (o : List Rq) (A : Nat → Int) : Prop where
  lo : ∀ c : Nat, lastS a (c : Int) ≤ A c
  up : ∀ x ∈ o, ∀ c : Nat, x.c = (c : Int) → x.s ≤ A c
  one : ∀ c : Nat, A c = lastS a (c : Int) ∨ ∃ x ∈ o, x.c = (c : Int) ∧ x.s = A c
theorem GQ.nil (a : List Rp) : GQ a [] (fun c => lastS a (c : Int)) := ⟨fun _ => Int.le_refl _, fun x h => by simp at h, fun _ => .inl rfl⟩
theorem GQ.ok {a : List Rp} {o : List Rq} {A : Nat → Int} {r : Rq} {C : Nat} (h : GQ a o A) (hc : r.c = (C : Int)) : okQ a o r = decide (A C < r.s) := by
  rw [Bool.eq_iff_iff, decide_eq_true_iff]
  constructor
  · intro hk
    obtain ⟨h1, h2⟩ := ok_out hk
    unfold dueQ at h1
    rw [decide_eq_true_iff, hc] at h1
    rcases h.one C with h3 | ⟨x, hx, hxc, hxs⟩
    · omega
    · have := h2 x hx (by omega)
      omega
  · intro hl
    unfold okQ dueQ
    have := h.lo C
    rw [Bool.and_eq_true, decide_eq_true_iff, hc, List.all_eq_true]
    refine ⟨by omega, fun x hx => ?_⟩
    by_cases he : x.c = (C : Int)
    · have := h.up x hx C he
      have hn : ¬ r.s ≤ x.s := by omega
      simp [hn]
    · simp [he]
theorem GQ.snoc {a : List Rp} {o : List Rq} {A : Nat → Int} {r : Rq} {C : Nat} (h : GQ a o A) (hc : r.c = (C : Int)) (hs : A C < r.s) : GQ a (o ++ [r]) (upd A C r.s) := by
  refine ⟨fun c => ?_, fun x hx c hxc => ?_, fun c => ?_⟩
  · unfold upd
    split
    · rename_i e; subst e; have := h.lo c; omega
    · exact h.lo c
  · unfold upd
    rcases List.mem_append.1 hx with hx | hx
    · have := h.up x hx c hxc
      split
      · rename_i e; subst e; omega
      · exact this
    · rw [List.mem_singleton.1 hx] at hxc ⊢
      rw [if_pos (by omega)]
      exact Int.le_refl _
  · unfold upd
    split
    · rename_i e; subst e
      exact .inr ⟨r, by simp, hc, rfl⟩
    · rcases h.one c with h1 | ⟨x, hx, h1, h2⟩
      · exact .inl h1
      · exact .inr ⟨x, by simp [hx], h1, h2⟩
theorem ras_len16 : ∀ a : List Rp, (ras a).length = a.length * 5
  | [] => rfl
  | x :: a => by
    have e : ras (x :: a) = x.l ++ ras a := rfl
    rw [e, List.length_append, ras_len16 a, List.length_cons, show x.l.length = 5 from rfl]
    omega
theorem OQ.keepG {w w' : World} {base g : Nat} {ov : Value} {l : List Rq} {xs : List Value} (h : OQ w base ov l xs) (hG : w.grownBy w' (some g)) (hg : g < base) : OQ w' base ov l xs :=
  ⟨own_keepO h.own (fun k hk e => hG.block k hk (fun e2 => by injection e2 with e2; have := (h.own.lt k e).1; omega)), h.x.keep (fun b hb hf => ⟨hf, hG.block b hb (fun e2 => by injection e2 with e2; have := hf.1; omega)⟩)⟩
/-- the numbers as they lie in memory -/
structure XQ16 (X : List Value) (A : Nat → Int) : Prop where
  len : X.length = 30
  at_ : ∀ c : Nat, c < 6 → X[c * 5 + 1]? = some (.int .i64 (A c))
theorem XQ16.set {X : List Value} {A : Nat → Int} (h : XQ16 X A) {C : Nat} {s : Int} (hC : C < 6) : XQ16 (X.set (C * 5 + 1) (.int .i64 s)) (upd A C s) := by
  refine ⟨by rw [List.length_set]; exact h.len, fun c hc => ?_⟩
  unfold upd
  by_cases e : c = C
  · subst e
    rw [if_pos rfl, List.getElem?_set_self (by rw [h.len]; omega)]
  · rw [if_neg e, List.getElem?_set_ne (by omega)]
    exact h.at_ c hc
theorem XQ16.of {a : List Rp} (ha : a.length = 6) : XQ16 (ras a) (fun c => lastS a (c : Int)) := by
  refine ⟨by rw [ras_len16, ha], fun c hc => ?_⟩
  obtain ⟨p, hp⟩ : ∃ p, a[c]? = some p := ⟨_, List.getElem?_eq_getElem (by omega)⟩
  rw [ras_s hp]
  unfold lastS
  rw [Int.toNat_natCast, hp]
  rfl
theorem sizeRs16 : (Try.prog.info? 37).map (·.size) = some 30 := by kernel_rfl
theorem sizeI16 : (Try.prog.info? 3).map (·.size) = some 1 := by kernel_rfl
set_option maxRecDepth 100000 in
set_option maxHeartbeats 16000000 in
theorem qbatch16_any (v : Value) (M : Nat → Prop) (l : List Rq) (a : List Rp) (w : World) (h : QX w v M l) (ha : a.length = 6) :
    Calls Try.prog 15 #[v, .agg (ras a).toArray] w fun e w' => ∃ v', e = .returned v' ∧ Rd w' (fun b => w.heap.size ≤ b) v' (rqs (batQ a l)) ∧ Below w.heap.size w w' := by
  obtain ⟨p, b, ov, Fs, rfl, hm, hM⟩ := h
  obtain ⟨Ao, co, rfl⟩ := own_shapeW hm.row
  have hlen := hm.qin.len
  have Hfm := hid hm.qin.fm
  have Hfi := hid (fun (r : Rq) (hr : r ∈ l) => ent_find hm.qin hr)
  have hpl := hm.blk.lt
  have hbl := hm.map.lt
  have hFw : ∀ x, Fs x → x < w.heap.size := fun x h => (hm.f x h).2.2.2
  have hko : ∀ k, (Value.slice Ao l.length co).ownBlock = some k → k < w.heap.size := fun k h => (hm.row.lt k h).2
  have hX0 := XQ16.of ha
  have b3 := Blk.new' w 37 (ras a)
  have hB0 : Below w.heap.size w (w.alloc (.cells (ras a).toArray 37)) := (Below.refl _ _).alloc (Nat.le_refl _) _
  have hm := hm.below hB0
  have c0 := hm.blk.cellAt 0 _ rfl
  obtain ⟨X0, hX00⟩ : ∃ q, q = ras a := ⟨_, rfl⟩
  rw [← hX00] at b3 hB0 c0 hm hX0 ⊢
  clear hX00 hM
  have hlt0 : (w.alloc (.cells X0.toArray 37)).heap.size = w.heap.size + 1 := by simp
  go_enter Try.func15, Try.ntmps15
  go_wp2
  obtain ⟨w0, hw0⟩ : ∃ x, x = w.alloc (.cells X0.toArray 37) := ⟨_, rfl⟩
  rw [← hw0] at b3 hB0 hm hlt0 ⊢
  clear hw0 c0
  obtain ⟨g3, hg3⟩ : ∃ g, g = w.heap.size := ⟨_, rfl⟩
  rw [← hg3] at b3 ⊢
  have hg3w : w.heap.size ≤ g3 := by omega
  have hg30 : g3 < w0.heap.size := by omega
  have hw00 : w.heap.size ≤ w0.heap.size := by omega
  clear hg3 hlt0
  go_loopw [5, 15] (fun ov iv wr => ∃ i : Nat, i ≤ l.length ∧ iv = .int .i64 i ∧ Hid (∃ xs, OQ wr w0.heap.size ov (batQ a (l.take i)) xs) ∧ Hid (∃ X A, Blk wr g3 37 X ∧ XQ16 X A ∧ GQ a (batQ a (l.take i)) A) ∧ w0.heap.size ≤ wr.heap.size ∧ Below w.heap.size w wr) (fun _ i _ => l.length - (intOf i).toNat)
  case atStart => exact ⟨0, Nat.zero_le _, rfl, ⟨[], OQ.nil _ _⟩, ⟨X0, _, b3, hX0, GQ.nil a⟩, Nat.le_refl _, hB0⟩
  case round =>
    clear b3 hX0
    obtain ⟨i, hi, rfl, hovx, hgx, hw0r, hBr⟩ := hrel
    obtain ⟨xs, hov⟩ := hovx.out
    obtain ⟨X, A, b3, hX, hG⟩ := hgx.out
    clear hovx hgx
    have hmr : QM wr p b (.slice Ao l.length co) Fs l := hm.keep hw0r (fun y hy => by
      have hyw : y < w.heap.size := by
        rcases hy with rfl | rfl | h | h
        · exact hpl
        · exact hbl
        · exact hko y h
        · exact hFw y h
      rw [hBr.block y hyw, hB0.block y hyw])
    obtain ⟨o, hoo⟩ : ∃ o, o = batQ a (l.take i) := ⟨_, rfl⟩
    have hol : o.length ≤ 4 := by rw [hoo]; exact (bin_all a _).len
    have Hst := hid (fun h4 => bat_stop (a := a) (l := l) (i := i) h4)
    have Hend := hid (fun (h : i = l.length) => (show batQ a l = batQ a (l.take i) by rw [h, List.take_length]))
    have hnx := fun d hd => bat_next (a := a) (l := l) (i := i) (r := d) hd
    rw [← hoo] at hov hG Hst Hend hnx
    clear hoo
    obtain ⟨A5, c5, rfl⟩ := own_shapeW hov.own
    by_cases hlt : i < l.length
    · obtain ⟨d, hd⟩ : ∃ d, l[i]? = some d := ⟨_, List.getElem?_eq_getElem hlt⟩
      have hI : (i : Int) < (l.length : Int) := by omega
      have hdm := List.mem_of_getElem? hd
      have hfm := Hfm.out d hdm
      have hdi := fm_in hfm
      have hdsm : d.g.length ≤ 1000000 := by omega
      have hxs := Hfi.out d hdm
      have hky := ky_fm hfm
      obtain ⟨C, hC⟩ : ∃ C : Nat, d.c = (C : Int) := ⟨d.c.toNat, by omega⟩
      have hC6 : C < 6 := by omega
      obtain ⟨hr0, hr1⟩ := rows_at (l.map ky16) i _ (ky_at hd)
      obtain ⟨x, hx⟩ : ∃ x, x = ky16 d := ⟨_, rfl⟩
      rw [← hx] at hxs hr0 hr1 hky
      have hx1 : x.1.1 = (C : Int) := by rw [hky]; exact hC
      have hx2 : x.1.2 = d.s := by rw [hky]
      have hrk := hmr.row
      obtain ⟨gk, cK, hgk, _, _, hrg⟩ := ownW_range hrk (by omega)
      injection hgk with hgk hgk1 hgk2
      clear hgk1 hgk2
      subst hgk
      have hrx : wr.rangeAt gk (0 + i * 2) [.int .i64 x.1.1, .int .i64 x.1.2] := range_part hrg (fun j v hj => by
        match j, hj with
        | 0, hj => simp at hj; subst hj; rw [show 0 + i * 2 + 0 = 2 * i from by omega]; exact hr0
        | 1, hj => simp at hj; subst hj; rw [show 0 + i * 2 + 1 = 2 * i + 1 from by omega]; exact hr1
        | j + 2, hj => simp at hj)
      have Hnx := hid (hnx d hd)
      have Hok := hid (hG.ok hC)
      have Hsn := hid (fun h => hG.snoc (r := d) hC h)
      have hdw := (fun W => done16_any C d.s (A C) X W hX.len hC6 (hX.at_ C hC6))
      obtain ⟨dn, hdq⟩ : ∃ q, q = decide (d.s ≤ A C) := ⟨_, rfl⟩
      rw [← hdq] at hdw
      have Hdn := hid hdw
      have Hdq := hid hdq
      clear hdw hdq
      have Hx1 := hid hx1
      have Hx2 := hid hx2
      clear hd hdm hr0 hr1 hrg hx hrk hnx hC hdi hfm hky hx1 hx2
      go_wp2_with (first | refine wp_ixa 56 (.tmp 13) (.tmp 15) rfl rfl rfl rfl Try.underlying56 hlt sizePl ?_ | refine wp_ld 60 (.tmp 17) rfl rfl rfl hrx Try.underlying60 rfl sizePl ?_ | (refine wp_newst 60 7 (.tmp 18) rfl rfl rfl rfl rfl rfl zeroPl (l := [.int .i64 x.1.1, .int .i64 x.1.2]) rfl rfl sizePl (by simp [Value.oneCell']) (by simp [Act.put]) ?_; intro w6 hK6 hB6 hs6; refine wp_stop ?_))
      have hov6 := hov.below hB6
      have hm6 := hmr.below hB6
      have b36 := b3.below hB6
      have hBr6 := hBr.trans (hB6.mono hBr.size)
      have hw06 := Nat.le_trans hw0r hB6.size
      obtain ⟨gq, hgq⟩ : ∃ g, g = wr.heap.size := ⟨_, rfl⟩
      have hown := fun k h => (hov.own.lt k h).2
      rw [← hgq] at hK6 hown ⊢
      have hgq3 : gq ≠ g3 := by omega
      clear hgq hs6 hrx hov hmr b3 hBr hB6 hw0r
      by_cases h4 : o.length = 4
      · have h44 : (o.length : Int) = 4 := by omega
        have hI4 : ((o.length : Int) == 4) = true := beq_iff_eq.2 h44
        have hst := Hst.out (by omega)
        have hrd : Rd w6 (fun b => w0.heap.size ≤ b) (.slice A5 o.length c5) (rqs (batQ a l)) := by rw [hst]; exact hov6.rd
        clear Hdn
        have Hrd := hid hrd
        have HB := hid hBr6
        clear hst hrd hov6 hm6 b36 hK6
        refine wp_go ?_
        go_wp2
        go_ret
        exact ⟨_, rfl, Hrd.out.weak (fun b _ h => Nat.le_trans hw00 h), HB.out⟩
      have hI4 : ((o.length : Int) == 4) = false := beq_eq_false_iff_ne.2 (by omega)
      refine wp_go ?_
      go_wp2_with (first | refine wp_ld 60 (.tmp 7) rfl rfl rfl hK6.whole Try.underlying60 rfl sizePl ?_ | refine wp_ld 37 (.tmp 3) rfl rfl rfl b36.whole Try.underlying37 rfl (by rw [hX.len]; exact sizeRs16) ?_)
      rw [Hx1.out, Hx2.out]
      refine (Hdn.out _).mono ?_
      rintro e' w8 ⟨rfl, hB8⟩
      rw [← Hx1.out, ← Hx2.out]
      have hov8 := hov6.below hB8
      have hm8 := hm6.below hB8
      have b38 := b36.below hB8
      have hK8 := hK6.below hB8
      have hBr8 := hBr6.trans (hB8.mono hBr6.size)
      have hw08 := Nat.le_trans hw06 hB8.size
      have hgql := hK8.lt
      clear hov6 hm6 b36 hK6 hBr6 hw06 Hdn Hst
      cases dn with
      | true =>
        have hdn : d.s ≤ A C := of_decide_eq_true Hdq.out.symm
        have hbs : batQ a (l.take (i + 1)) = o := by
          rw [Hnx.out]
          unfold batS
          rw [if_neg (fun h => by rw [Hok.out, decide_eq_true_iff] at h; omega)]
        have hov9 : ∃ xs, OQ w8 w0.heap.size (.slice A5 o.length c5) (batQ a (l.take (i + 1))) xs := ⟨xs, by rw [hbs]; exact hov8⟩
        have hg9 : ∃ X A, Blk w8 g3 37 X ∧ XQ16 X A ∧ GQ a (batQ a (l.take (i + 1))) A := ⟨X, A, b38, hX, by rw [hbs]; exact hG⟩
        have Hov9 := hid hov9
        have Hg9 := hid hg9
        clear hdn hov9 hg9 hbs hov8 b38 hX hG hm8 hK8
        go_wp2
        go_roundw
        case rel => exact ⟨i + 1, by omega, by go_num, Hov9, Hg9, hw08, hBr8⟩
        case measure => simp [intOf]; omega
      | false =>
        have hdn : ¬ d.s ≤ A C := of_decide_eq_false Hdq.out.symm
        have hbs : batQ a (l.take (i + 1)) = o ++ [d] := by
          rw [Hnx.out]
          unfold batS
          rw [if_pos ⟨by omega, by rw [Hok.out, decide_eq_true_iff]; omega⟩]
        have hG2 := Hsn.out (by omega)
        have Hbs := hid hbs
        clear hbs Hsn Hok hdn
        go_upto_region 9 with (fail)
        obtain ⟨wq, hwq⟩ : ∃ wq, wq = w8 := ⟨_, rfl⟩
        rw [← hwq] at hov8 hm8 hBr8 hK8 b38 hw08 hgql ⊢
        clear hwq
        obtain ⟨u5, hu5⟩ : ∃ u5, u5 = Value.slice A5 o.length c5 := ⟨_, rfl⟩
        rw [← hu5] at hov8 hown ⊢
        clear hu5
        have ho := hov8.own
        have hx0 := hov8.x
        have hnp : ∀ y, y < w0.heap.size → ¬ u5.ownBlock = some y := fun y hy e => by have := (ho.lt y e).1; omega
        have HC : Hid (∀ W, Ch (fun x => u5.ownBlock = some x) wq W → W.cell? ⟨p, 1, none⟩ = some (.map (some b))) := hid fun W hc => (hm8.blk.ch hc (hnp p (by omega))).cellAt 1 _ rfl
        have HK : Hid (∀ W, Ch (fun x => u5.ownBlock = some x) wq W → W.rangeAt gq 0 [.int .i64 x.1.1, .int .i64 x.1.2]) := hid fun W hc => (hK8.ch hc (fun e => by have := hown gq e; omega)).whole
        have HM : Hid (∀ W, Ch (fun x => u5.ownBlock = some x) wq W → MS qM W Fs b (ent l)) := hid fun W hc => hm8.map.keep (hc.block b hm8.map.lt (hnp b (by omega))) (fun y hy hF => ⟨hF, hc.block y hy (hnp y (by have := hFw y hF; omega))⟩)
        refine wp_region_noPanic ?_
        refine wp_region_held_drew (S := Ch (fun x => u5.ownBlock = some x) wq) (by kernel_rfl) ((Ch.refl _ _).drew) (fun hHeld => ?_)
        refine wpAnyH_take (i := 0) (oi := ⟨some 25, _, _, _, _, none⟩) (v := ?_) rfl (by kernel_rfl) (by kernel_rfl) (by kernel_rfl) (fun _ _ _ h => h) (Or.inl ⟨by rfl, ?_⟩) (by assumption) ?_
        rotate_left
        · intro w hSw; go_simp; try with_reducible rfl
        try simp only [Act.put, List.setIfInBounds_toArray, List.set_cons_zero, List.set_cons_succ]
        refine wpAnyH_take (i := 1) (oi := ⟨some 26, _, _, _, _, none⟩) (v := ?_) rfl (by kernel_rfl) (by kernel_rfl) (by kernel_rfl) (fun _ _ _ h => h) (Or.inl ⟨by rfl, ?_⟩) (by assumption) ?_
        rotate_left
        · intro w hSw; go_simp; try with_reducible rfl
        try simp only [Act.put, List.setIfInBounds_toArray, List.set_cons_zero, List.set_cons_succ]
        refine wpAnyH_take (i := 2) (oi := ⟨some 27, _, _, _, _, none⟩) (v := ?_) rfl (by kernel_rfl) (by kernel_rfl) (by kernel_rfl) (fun _ _ _ h => h) (Or.inl ⟨by rfl, ?_⟩) (by assumption) ?_
        rotate_left
        · intro w hSw; go_simp; try with_reducible rfl
        try simp only [Act.put, List.setIfInBounds_toArray, List.set_cons_zero, List.set_cons_succ]
        refine wpAnyH_take (i := 3) (oi := ⟨some 28, _, _, _, _, none⟩) (v := ?_) rfl (by kernel_rfl) (by kernel_rfl) (by kernel_rfl) (fun _ _ _ h => h) (Or.inl ⟨by rfl, ?_⟩) (by assumption) ?_
        rotate_left
        · intro w hSw; go_simp; try with_reducible rfl
        try simp only [Act.put, List.setIfInBounds_toArray, List.set_cons_zero, List.set_cons_succ]
        refine wpAnyH_take (i := 4) (oi := ⟨some 29, _, _, _, _, none⟩) (v := ?_) rfl (by kernel_rfl) (by kernel_rfl) (by kernel_rfl) (fun _ _ _ h => h) (Or.inl ⟨by rfl, ?_⟩) (by assumption) ?_
        rotate_left
        · intro w hSw; have hcw := HC.out w hSw; go_simp; try with_reducible rfl
        try simp only [Act.put, List.setIfInBounds_toArray, List.set_cons_zero, List.set_cons_succ]
        refine wpAnyH_take (i := 5) (oi := ⟨some 30, .load 60 (.tmp 7), _, _, _, none⟩) (v := _) rfl (by kernel_rfl) (by kernel_rfl) (by kernel_rfl) (fun _ _ _ h => h) (yieldsIf_load_mid (by rfl) 60 (.tmp 7) (by rfl) _ (0) (by rfl) _ _ (fun _ hs => HK.out _ hs) Try.underlying60 rfl (sizePl)) (by assumption) ?_
        try simp only [Act.put, List.setIfInBounds_toArray, List.set_cons_zero, List.set_cons_succ]
        refine wpAnyH_ready (rs := [6]) (by kernel_rfl) (by simp) ?_
        refine AllReadyH.cons (o := ⟨some 31, .lookup _ _ _ _, _, _, _, none⟩) rfl (fun K hK => ?_) AllReadyH.nil
        refine step_lookS 55 32 (.tmp 29) (.tmp 30) false (by rfl) (by rfl) Try.underlying55 (zReq16 _) (by rfl) (HM.out _ hHeld) (s := x) (by rfl) ?_ ?_
        · intro h; rw [hxs] at h; cases h
        intro d2 v hd2 hv2
        rw [hxs] at hd2
        injection hd2 with hd2
        subst hd2
        rw [if_neg (by simp)]
        obtain ⟨ub2, rfl, hub2⟩ := hv2
        obtain ⟨A6, c6, rfl⟩ := hub2.shape
        refine hK.out _ _ (hHeld) (fun hHeld => ?_)
        clear hK K
        try simp only [Act.put, List.setIfInBounds_toArray, List.set_cons_zero, List.set_cons_succ]
        refine wpAnyH_ready (rs := [7]) (by kernel_rfl) (by simp) ?_
        refine AllReadyH.cons (o := ⟨some 32, _, _, _, _, none⟩) rfl (fun K hK => ?_) AllReadyH.nil
        go_simp
        refine (copied16_any d (.slice A6 d.g.length c6) Fs _ hub2 hdsm).mono ?_
        rintro e' w7 ⟨vb, rfl, hr7, hB7⟩
        obtain ⟨A8, c8, rfl⟩ := hr7.shape
        have hs7 := hHeld.size
        have hC7 := hHeld.belowR hB7
        have ho7 := own_bel (own_keepO ho (w' := wq.drew) (fun k _ _ => rfl)) hB7
        have hx7 := (hx0.keep (w := wq) (w' := wq.drew) (F' := fun b => w0.heap.size ≤ b ∧ u5.ownBlock ≠ some b) (fun b hb hF => ⟨hF, rfl⟩)).keep (w' := w7) (F' := fun b => w0.heap.size ≤ b ∧ u5.ownBlock ≠ some b) (fun b hb hF => ⟨hF, hB7.block b hb⟩)
        refine hK.out _ _ (hC7) (fun hHeld => ?_)
        clear hK K
        try simp only [Act.put, List.setIfInBounds_toArray, List.set_cons_zero, List.set_cons_succ]
        refine wpAnyH_ready (rs := [8]) (by kernel_rfl) (by simp) ?_
        refine AllReadyH.cons (o := ⟨some 33, .buildSlice _ _ _, _, _, _, none⟩) rfl (fun K hK => ?_) AllReadyH.nil
        refine step_bsW (.tmp 32) slRq16 (by rfl) (by rfl) (us := d.l (.slice A8 d.g.length c8)) (by rfl) (len_l _ _) ?_
        refine hK.out _ _ (hC7.grow (World.grownBy_alloc _ _ none) (fun k hk => by cases hk)) (fun hHeld => ?_)
        clear hK K
        try simp only [Act.put, List.setIfInBounds_toArray, List.set_cons_zero, List.set_cons_succ]
        refine wpAnyH_ready (rs := [9]) (by kernel_rfl) (by simp) ?_
        refine AllReadyH.cons (o := ⟨some 34, _, _, _, _, none⟩) rfl (fun K hK => ?_) AllReadyH.nil
        refine step_appW13 (.tmp 25) (.tmp 33) slRq16 (by rfl) (by rfl) (us := d.l (.slice A8 d.g.length c8)) (len_l _ _) one_l16 (by rfl) ho7 (by rfl) (by simp only [maxLen]; omega) (by omega) (Nat.le_trans hw08 hC7.size) ?_
        intro v9 w9 ho9 hG9 hd9
        refine hK.out _ _ (hC7.grow hG9 (fun k hk => .inl hk)) (fun hHeld => ?_)
        clear hK K
        try simp only [Act.put, List.setIfInBounds_toArray, List.set_cons_zero, List.set_cons_succ]
        refine wpAnyH_take (i := 10) (oi := ⟨some 5, _, _, _, _, none⟩) (v := ?_) rfl (by kernel_rfl) (by kernel_rfl) (by kernel_rfl) (fun _ _ _ h => h) (Or.inl ⟨by rfl, ?_⟩) (by assumption) ?_
        rotate_left
        · intro w hSw; go_simp; try with_reducible rfl
        try simp only [Act.put, List.setIfInBounds_toArray, List.set_cons_zero, List.set_cons_succ]
        refine wpAnyH_done (by kernel_rfl) ?_ _
        refine NoPanic.normal ?_
        have hov9 := (OQ.mk ho7 hx7).push (u := .slice A8 d.g.length c8) (m := d) (hr7.weak (fun y _ h => ⟨Nat.le_trans hw08 (Nat.le_trans hs7 h), fun e => by have := (ho.lt y e).2; have h' : wq.heap.size ≤ y := Nat.le_trans hs7 h; omega⟩)) ho9 hG9 hd9
        rw [← Hbs.out] at hov9
        have hB9 : Below w.heap.size w w9 := Ch.below_of hBr8 hHeld (fun k hk => Nat.le_trans hw00 (ho.lt k hk).1) hBr8.size
        have b39 := b38.ch hHeld (hnp g3 hg30)
        have hK9 := hK8.ch hHeld (fun e => by have := hown gq e; omega)
        have hw09 := Nat.le_trans hw08 hHeld.size
        have c90 := hK9.cellAt 0 _ rfl
        have c91 := hK9.cellAt 1 _ rfl
        rw [Hx1.out] at c90
        rw [Hx2.out] at c91
        have hI6 : (C : Int) < 6 := by omega
        have Hov9 := hid hov9
        clear hov9 HC HK HM hHeld hov8 hm8 hBr8 hK8 hK9 ho hx0 hnp ho7 hx7 hr7 hB7 hC7 ho9 hG9 hd9 hub2 b38 hw08
        go_wp2_with (first | refine wp_ixp 37 (.tmp 3) (.tmp 36) rfl rfl rfl (i := C) rfl Try.underlying37 hC6 sizeRp16 ?_ | (refine wp_st1 3 (.tmp 40) (.tmp 38) rfl rfl rfl (f := C * 5 + 1) rfl (v := .int .i64 d.s) rfl b39 (by rw [hX.len]; omega) sizeI16 rfl rfl ?_; intro w10 b310 hG10; refine wp_stop ?_))
        have hov10 := OQ.keepG Hov9.out hG10 hg30
        have hB10 := hB9.grown hG10 hB9.size (fun k hk => by injection hk with hk; omega)
        have hw010 := Nat.le_trans hw09 hG10.size
        have hg10 : ∃ X A, Blk w10 g3 37 X ∧ XQ16 X A ∧ GQ a (batQ a (l.take (i + 1))) A := ⟨_, _, b310, hX.set hC6, by rw [Hbs.out]; exact hG2⟩
        have Hg10 := hid hg10
        have Hov10 := hid hov10
        clear hg10 hov10 b310 hG10 hB9 Hov9 b39 c90 c91 hX hG hG2
        refine wp_go ?_
        go_wp2
        go_roundw
        case rel => exact ⟨i + 1, by omega, by go_num, ⟨_, Hov10.out⟩, Hg10, hw010, hB10⟩
        case measure => simp [intOf]; omega
    · have hi' : i = l.length := by omega
      subst hi'
      have hI : ¬ (l.length : Int) < (l.length : Int) := by omega
      have hrd : Rd wr (fun b => w0.heap.size ≤ b) (.slice A5 o.length c5) (rqs (batQ a l)) := by rw [Hend.out rfl]; exact hov.rd
      have Hrd := hid hrd
      have HB := hid hBr
      clear hrd hov hmr b3 hX hG Hst Hend hnx hm
      go_wp2
      go_ret
      exact ⟨_, rfl, Hrd.out.weak (fun b _ h => Nat.le_trans hw00 h), HB.out⟩
end Go.Proofs.Ytnpgloeldoiekaa
/- BU: layer 16: contract of queue: Drop. -/
namespace Go.Proofs.Ytnpgloeldoiekaa
open Go.RowKit Go.V Go.Maps
theorem chGrow16 {w W W' : World} {G : Nat → Prop} {g : Nat} (h : Ch G w W) (hg : W.grownBy W' (some g)) : Ch (fun x => G x ∨ x = g) w W' :=
  (h.weaken (fun _ _ h => .inl h)).grow hg (fun k hk => .inl (.inr (by injection hk with hk; exact hk.symm)))
theorem drp_mid {l : List Rq} (h : QIn l) (a : List Rp) (i : Nat) : QIn (drpQ a (l.take i) ++ l.drop i) := by
  have hs : (drpQ a (l.take i) ++ l.drop i).Sublist l := by
    have h1 : (drpQ a (l.take i)).Sublist (l.take i) := List.filter_sublist
    have h2 := h1.append (List.Sublist.refl (l.drop i))
    rwa [List.take_append_drop] at h2
  exact ⟨fun r hr => h.fm r (hs.mem hr), Nat.le_trans hs.length_le h.len, h.one.sublist hs⟩
set_option maxRecDepth 100000 in
set_option maxHeartbeats 16000000 in
theorem qdrop16_any (v : Value) (M : Nat → Prop) (l : List Rq) (a : List Rp) (w : World) (h : QX w v M l) (ha : a.length = 6) :
    Calls Try.prog 17 #[v, .agg (ras a).toArray] w fun e w' => e = .returned (.tuple #[]) ∧ ∃ M', QP w M w' v (drpQ a l) M' := by
  obtain ⟨p, b, ov, Fs, rfl, hm, hM⟩ := h
  obtain ⟨Ao, co, rfl⟩ := own_shapeW hm.row
  have hlen := hm.qin.len
  have Hfm := hid hm.qin.fm
  have Hmid := hid (fun i => drp_mid hm.qin a i)
  have Hqd := hid (qin_drp hm.qin a)
  have hpl := hm.blk.lt
  have hbl := hm.map.lt
  have hFw : ∀ x, Fs x → x < w.heap.size := fun x h => (hm.f x h).2.2.2
  have hFn : ∀ x, Fs x → x ≠ p ∧ x ≠ b := fun x h => ⟨(hm.f x h).1, (hm.f x h).2.1⟩
  have hko : ∀ k, (Value.slice Ao l.length co).ownBlock = some k → k < w.heap.size ∧ k ≠ b := fun k h => ⟨(hm.row.lt k h).2, fun e => hm.br (by rw [← e]; exact h)⟩
  have hpb := hm.pb
  have hFb : ¬ Fs b := fun h => (hFn b h).2 rfl
  have Hdue := hid (fun (r : Rq) (c : Nat) (p : Rp) (hc : r.c = (c : Int)) (hp : a[c]? = some p) => due_at (a := a) hc hp)
  have b3 := Blk.new' w 37 (ras a)
  have hB0 : Below w.heap.size w (w.alloc (.cells (ras a).toArray 37)) := (Below.refl _ _).alloc (Nat.le_refl _) _
  have hm := hm.below hB0
  have c0 := hm.blk.cellAt 0 _ rfl
  have Has := hid (fun (ci : Nat) (p : Rp) (h : a[ci]? = some p) => ras_s h)
  have hX0 : (ras a).length = 30 := by rw [ras_len16, ha]
  obtain ⟨X, hX⟩ : ∃ q, q = ras a := ⟨_, rfl⟩
  rw [← hX] at b3 hB0 c0 hm Has hX0 ⊢
  clear hX
  have hlt0 : (w.alloc (.cells X.toArray 37)).heap.size = w.heap.size + 1 := by simp
  go_enter Try.func17, Try.ntmps17
  go_wp2
  obtain ⟨w0, hw0⟩ : ∃ x, x = w.alloc (.cells X.toArray 37) := ⟨_, rfl⟩
  rw [← hw0] at b3 hB0 hm hlt0 ⊢
  clear hw0 c0
  obtain ⟨g3, hg3⟩ : ∃ g, g = w.heap.size := ⟨_, rfl⟩
  rw [← hg3] at b3 ⊢
  have hg3w : w.heap.size ≤ g3 := by omega
  have hg30 : g3 < w0.heap.size := by omega
  have hg3b : ¬ g3 = b := by omega
  have hw00 : w.heap.size ≤ w0.heap.size := by omega
  clear hg3 hlt0
  go_loopw [4, 14] (fun lv iv wr => ∃ i : Nat, i ≤ l.length ∧ iv = .int .i64 i ∧ wr.ownsRow w0.heap.size 60 2 lv (drpQ a (l.take i)).length (K2.rows ((drpQ a (l.take i)).map ky16)) ∧ MS qM wr Fs b (ent (drpQ a (l.take i) ++ l.drop i)) ∧ Ch (fun x => x = b) w0 wr) (fun _ i _ => l.length - (intOf i).toNat)
  case atStart => exact ⟨0, Nat.zero_le _, rfl, World.ownsRow_nil _ _ _ _, hm.map, Ch.refl _ _⟩
  case round =>
    obtain ⟨i, hi, rfl, hor, hmp, hCr⟩ := hrel
    have hwr := hCr.size
    obtain ⟨D, hD⟩ : ∃ D, D = drpQ a (l.take i) := ⟨_, rfl⟩
    have hDl : D.length ≤ 12 := by rw [hD]; exact Nat.le_trans (List.length_filter_le _ _) (by rw [List.length_take]; omega)
    have hsn := fun (d : Rq) (hd : l[i]? = some d) => drp_snoc (a := a) hd
    have hmid := Hmid.out i
    have hend : i = l.length → drpQ a l = D := fun h => by rw [hD, h, List.take_length]
    rw [← hD] at hor hmp hsn hmid
    clear hD
    obtain ⟨A4, c4, rfl⟩ := own_shapeW hor
    by_cases hlt : i < l.length
    · obtain ⟨d, hd⟩ : ∃ d, l[i]? = some d := ⟨_, List.getElem?_eq_getElem hlt⟩
      have hI : (i : Int) < (l.length : Int) := by omega
      have hdm := List.mem_of_getElem? hd
      have hfm := Hfm.out d hdm
      have hdi := fm_in hfm
      have hky := ky_fm hfm
      obtain ⟨C, hC⟩ : ∃ C : Nat, d.c = (C : Int) := ⟨d.c.toNat, by omega⟩
      have hC6 : C < 6 := by omega
      obtain ⟨rp, hrp⟩ : ∃ rp, a[C]? = some rp := ⟨_, List.getElem?_eq_getElem (by omega)⟩
      have hdue := Hdue.out d C rp hC hrp
      have hsn := hsn d hd
      rw [hdue] at hsn
      have hdc : l.drop i = d :: l.drop (i + 1) := by obtain ⟨hl, rfl⟩ := List.getElem?_eq_some_iff.1 hd; exact List.drop_eq_getElem_cons hl
      rw [hdc] at hmp hmid
      obtain ⟨hr0, hr1⟩ := rows_at (l.map ky16) i _ (ky_at hd)
      obtain ⟨x, hx⟩ : ∃ x, x = ky16 d := ⟨_, rfl⟩
      have hwo := ent_wo hmid
      have hput : K2.rows ((D ++ [d]).map ky16) = K2.rows (D.map ky16) ++ [.int .i64 x.1.1, .int .i64 x.1.2] := by rw [hx, List.map_append, rows_app]; rfl
      rw [← hx] at hr0 hr1 hky hwo
      have hx1 : x.1.1 = (C : Int) := by rw [hky]; exact hC
      have hx2 : x.1.2 = d.s := by rw [hky]
      have hrk := own_keepO hm.row (w' := wr) (fun k hk e => hCr.block k hk (hko k e).2)
      obtain ⟨gk, cK, hgk, _, _, hrg⟩ := ownW_range hrk (by omega)
      injection hgk with hgk hgk1 hgk2
      clear hgk1 hgk2
      subst hgk
      have hrx : wr.rangeAt gk (0 + i * 2) [.int .i64 x.1.1, .int .i64 x.1.2] := range_part hrg (fun j v hj => by
        match j, hj with
        | 0, hj => simp at hj; subst hj; rw [show 0 + i * 2 + 0 = 2 * i from by omega]; exact hr0
        | 1, hj => simp at hj; subst hj; rw [show 0 + i * 2 + 1 = 2 * i + 1 from by omega]; exact hr1
        | j + 2, hj => simp at hj)
      obtain ⟨R, hR⟩ : ∃ R, R = l.drop (i + 1) := ⟨_, rfl⟩
      obtain ⟨D', hD'⟩ : ∃ D', D' = drpQ a (l.take (i + 1)) := ⟨_, rfl⟩
      rw [← hR] at hmp hwo
      rw [← hD'] at hsn
      have HR := hid hR
      have HD' := hid hD'
      have Hsn := hid hsn
      have Hwo := hid hwo
      have Hput := hid hput
      have hdw := (fun W => done16_any C d.s rp.s X W hX0 hC6 (Has.out C rp hrp))
      obtain ⟨dn, hdq⟩ : ∃ q, q = decide (d.s ≤ rp.s) := ⟨_, rfl⟩
      rw [← hdq] at hdw
      have Hdn := hid hdw
      have Hdq := hid hdq
      have Hx1 := hid hx1
      have Hx2 := hid hx2
      have b3r := b3.ch hCr hg3b
      clear hdw hdq hd hdm hr0 hr1 hrg hx hrk hC hdi hfm hky hx1 hx2 hR hD' hsn hwo hput hmid hrp hdue hdc
      go_wp2_with (first | refine wp_ixa 56 (.tmp 12) (.tmp 14) rfl rfl rfl rfl Try.underlying56 hlt sizePl ?_ | refine wp_ld 60 (.tmp 16) rfl rfl rfl hrx Try.underlying60 rfl sizePl ?_ | (refine wp_newst 60 6 (.tmp 17) rfl rfl rfl rfl rfl rfl zeroPl (l := [.int .i64 x.1.1, .int .i64 x.1.2]) rfl rfl sizePl (by simp [Value.oneCell']) (by simp [Act.put]) ?_; intro w6 hK6 hB6 hs6; refine wp_stop ?_))
      have hor6 := own_bel hor hB6
      have hmp6 := hmp.below hB6
      have b36 := b3r.below hB6
      have hC6r := hCr.belowR hB6
      obtain ⟨gq, hgq⟩ : ∃ g, g = wr.heap.size := ⟨_, rfl⟩
      rw [← hgq] at hK6 ⊢
      have hgqb : ¬ gq = b := by omega
      clear hgq hs6 hrx hor hmp b3r hB6
      refine wp_go ?_
      go_wp2_with (first | refine wp_ld 60 (.tmp 6) rfl rfl rfl hK6.whole Try.underlying60 rfl sizePl ?_ | refine wp_ld 37 (.tmp 3) rfl rfl rfl b36.whole Try.underlying37 rfl (by rw [hX0]; exact sizeRs16) ?_)
      rw [Hx1.out, Hx2.out]
      refine (Hdn.out _).mono ?_
      rintro e' w8 ⟨rfl, hB8⟩
      rw [← Hx1.out, ← Hx2.out]
      have hor8 := own_bel hor6 hB8
      have hmp8 := hmp6.below hB8
      have hK8 := hK6.below hB8
      have hC8 := hC6r.belowR hB8
      clear hor6 hmp6 b36 hK6 hC6r Hdn
      cases dn with
      | true =>
        have hdn : d.s ≤ rp.s := of_decide_eq_true Hdq.out.symm
        have hDD : D' = D := by rw [Hsn.out, if_neg (by rw [decide_eq_true_iff]; omega), List.append_nil]
        have HDD := hid hDD
        clear hdn hDD
        go_upto_region 7 with (fail)
        obtain ⟨wq, hwq⟩ : ∃ wq, wq = w8 := ⟨_, rfl⟩
        rw [← hwq] at hor8 hmp8 hC8 hK8 ⊢
        clear hwq
        have hPq := hm.blk.ch hC8 hpb
        have HC : Hid (∀ W, Ch (fun x => x = b) wq W → W.cell? ⟨p, 1, none⟩ = some (.map (some b))) := hid fun W hc => (hPq.ch hc hpb).cellAt 1 _ rfl
        have HK : Hid (∀ W, Ch (fun x => x = b) wq W → W.rangeAt gq 0 [.int .i64 x.1.1, .int .i64 x.1.2]) := hid fun W hc => (hK8.ch hc hgqb).whole
        refine wp_region_noPanic ?_
        refine wp_region_held_drew (S := Ch (fun x => x = b) wq) (by kernel_rfl) ((Ch.refl _ _).drew) (fun hHeld => ?_)
        refine wpAnyH_take (i := 0) (oi := ⟨some 21, _, _, _, _, none⟩) (v := ?_) rfl (by kernel_rfl) (by kernel_rfl) (by kernel_rfl) (fun _ _ _ h => h) (Or.inl ⟨by rfl, ?_⟩) (by assumption) ?_
        rotate_left
        · intro w hSw; go_simp; try with_reducible rfl
        try simp only [Act.put, List.setIfInBounds_toArray, List.set_cons_zero, List.set_cons_succ]
        refine wpAnyH_take (i := 1) (oi := ⟨some 22, _, _, _, _, none⟩) (v := ?_) rfl (by kernel_rfl) (by kernel_rfl) (by kernel_rfl) (fun _ _ _ h => h) (Or.inl ⟨by rfl, ?_⟩) (by assumption) ?_
        rotate_left
        · intro w hSw; go_simp; try with_reducible rfl
        try simp only [Act.put, List.setIfInBounds_toArray, List.set_cons_zero, List.set_cons_succ]
        refine wpAnyH_take (i := 2) (oi := ⟨some 23, _, _, _, _, none⟩) (v := ?_) rfl (by kernel_rfl) (by kernel_rfl) (by kernel_rfl) (fun _ _ _ h => h) (Or.inl ⟨by rfl, ?_⟩) (by assumption) ?_
        rotate_left
        · intro w hSw; go_simp; try with_reducible rfl
        try simp only [Act.put, List.setIfInBounds_toArray, List.set_cons_zero, List.set_cons_succ]
        refine wpAnyH_take (i := 3) (oi := ⟨some 24, _, _, _, _, none⟩) (v := ?_) rfl (by kernel_rfl) (by kernel_rfl) (by kernel_rfl) (fun _ _ _ h => h) (Or.inl ⟨by rfl, ?_⟩) (by assumption) ?_
        rotate_left
        · intro w hSw; have hcw := HC.out w hSw; go_simp; try with_reducible rfl
        try simp only [Act.put, List.setIfInBounds_toArray, List.set_cons_zero, List.set_cons_succ]
        refine wpAnyH_take (i := 4) (oi := ⟨some 25, .load 60 (.tmp 6), _, _, _, none⟩) (v := _) rfl (by kernel_rfl) (by kernel_rfl) (by kernel_rfl) (fun _ _ _ h => h) (yieldsIf_load_mid (by rfl) 60 (.tmp 6) (by rfl) _ (0) (by rfl) _ _ (fun _ hs => HK.out _ hs) Try.underlying60 rfl (sizePl)) (by assumption) ?_
        try simp only [Act.put, List.setIfInBounds_toArray, List.set_cons_zero, List.set_cons_succ]
        refine wpAnyH_ready (rs := [5]) (by kernel_rfl) (by simp) ?_
        refine AllReadyH.cons (o := ⟨none, _, _, _, _, none⟩) rfl (fun K hK => ?_) AllReadyH.nil
        refine step_delS 55 32 (.tmp 24) (.tmp 25) (by rfl) (by rfl) Try.underlying55 (by rfl) (hmp8.keep (w' := wq.drew) rfl (fun _ _ h => ⟨h, rfl⟩)) (s := x) (by rfl) hFb ?_
        intro w7 hM7 hG7 hs7
        refine hK.out _ _ (hHeld.grow hG7 (fun k hk => .inl (by injection hk with hk; exact hk.symm))) (fun hHeld => ?_)
        clear hK K
        try simp only [Act.put]
        refine wpAnyH_done (by kernel_rfl) ?_ _
        refine NoPanic.normal ?_
        have hor9 := own_keepO hor8 (w' := w7) (fun k hk e => hHeld.block k hk (by have := (hor8.lt k e).1; omega))
        have hC9 := hC8.trans hHeld
        rw [Hwo.out, ← HDD.out] at hM7
        have hor9 : w7.ownsRow w0.heap.size 60 2 (.slice A4 D.length c4) D'.length (K2.rows (D'.map ky16)) := by rw [HDD.out]; exact hor9
        rw [HR.out, HD'.out] at hM7
        rw [HD'.out] at hor9
        have Hor9 := hid hor9
        have HM9 := hid hM7
        have HC9 := hid hC9
        clear hor9 hM7 hC9 HC HK hHeld hor8 hmp8 hC8 hK8 hPq hG7
        go_wp2
        go_roundw
        case rel => exact ⟨i + 1, by omega, by go_num, Hor9.out, HM9.out, HC9.out⟩
        case measure => simp [intOf]; omega
      | false =>
        have hdn : ¬ d.s ≤ rp.s := of_decide_eq_false Hdq.out.symm
        have hDD : D' = D ++ [d] := by rw [Hsn.out, if_pos (by rw [decide_eq_true_iff]; omega)]
        have HDD := hid hDD
        clear hdn hDD
        go_wp2_with (first | refine wp_ld 60 (.tmp 6) rfl rfl rfl hK8.whole Try.underlying60 rfl sizePl ?_ | (refine wp_pushW (.tmp 26) (.tmp 27) 28 slPl rfl rfl rfl rfl rfl (us := [.int .i64 x.1.1, .int .i64 x.1.2]) rfl rfl (one_k2 x) (by simp [Act.put]) rfl hor8 (by simp only [maxLen]; omega) (by omega) hC8.size ?_; intro v9 w9 ho9 hG9 hd9; refine wp_stop ?_))
        have hC9 := hC8.grow hG9 (fun k hk => .inr (hor8.lt k hk).1)
        have hmp9 := hmp8.keep (w' := w9) (F' := Fs) (hG9.block b hmp8.lt (fun e => by have := (hor8.lt b e.symm).1; omega)) (fun y hy hF => ⟨hF, hG9.block y hy (fun e => by have := (hor8.lt y e.symm).1; have := hFw y hF; omega)⟩)
        have hor9 : w9.ownsRow w0.heap.size 60 2 v9 D'.length (K2.rows (D'.map ky16)) := by rw [HDD.out, List.length_append, Hput.out]; exact ho9
        rw [show D ++ d :: R = D' ++ R from by rw [HDD.out, List.append_assoc]; rfl, HR.out, HD'.out] at hmp9
        rw [HD'.out] at hor9
        have Hor9 := hid hor9
        have HM9 := hid hmp9
        have HC9 := hid hC9
        clear hor9 hmp9 hC9 ho9 hG9 hd9 hor8 hmp8 hC8 hK8
        refine wp_go ?_
        go_wp2
        go_roundw
        case rel => exact ⟨i + 1, by omega, by go_num, Hor9.out, HM9.out, HC9.out⟩
        case measure => simp [intOf]; omega
    · have hi' : i = l.length := by omega
      subst hi'
      have hI : ¬ (l.length : Int) < (l.length : Int) := by omega
      rw [List.drop_length, List.append_nil] at hmp
      have Hend := hid (hend rfl)
      have hPr := hm.blk.ch hCr hpb
      clear hsn hmid hend
      go_wp2_with (first | (refine wp_st1 56 (.tmp 34) (.tmp 32) rfl rfl rfl (f := 0) rfl (v := .slice A4 D.length c4) rfl hPr (by simp) sizeSp rfl rfl ?_; intro w9 hP9 hG9; refine wp_stop ?_))
      have hlo := fun k hk => (hor.lt k hk).1
      have hor9 := own_keepO hor (w' := w9) (fun k hk e => hG9.block k hk (by intro h; injection h with h; have := hlo k e; omega))
      have hmp9 := hmp.keep (w' := w9) (F' := Fs) (hG9.block b hmp.lt (fun e => hpb (Option.some.inj e).symm)) (fun y hy hF => ⟨hF, hG9.block y hy (fun e => (hFn y hF).1 (Option.some.inj e))⟩)
      have hP9 : Blk w9 p 58 [.slice A4 D.length c4, .map (some b)] := hP9
      have hC9 := chGrow16 hCr hG9
      have hs9 := hC9.size
      have Hor9 := hid (own_weak (base' := 0) hor9 (Nat.zero_le _))
      have Hmp9 := hid hmp9
      have HP9 := hid hP9
      have HC9 := hid hC9
      clear hor hor9 hmp hmp9 hP9 hC9 hPr hG9 hCr
      refine wp_go ?_
      go_wp2
      refine Go.Great.bodyPost_end0 rfl rfl ?_
      have hqd := Hqd.out
      rw [Hend.out] at hqd ⊢
      refine ⟨rfl, _, ⟨⟨p, b, .slice A4 D.length c4, Fs, rfl, ⟨HP9.out, Hor9.out, Hmp9.out, hqd, hpb, fun e => by have := hlo b e; omega, fun x hx => ⟨(hFn x hx).1, (hFn x hx).2, fun e => by have := hlo x e; have := hFw x hx; omega, by have := hFw x hx; omega⟩⟩, fun x => Iff.rfl⟩, ?_, ?_⟩⟩
      · rintro x (rfl | rfl | h | h)
        · exact .inl ((hM _).2 (.inl rfl))
        · exact .inl ((hM _).2 (.inr (.inl rfl)))
        · exact .inr (Nat.le_trans hw00 (hlo x h))
        · exact .inl ((hM x).2 (.inr (.inr (.inr h))))
      · refine ((Ch.refl M w).belowR hB0).trans (HC9.out.weaken ?_)
        rintro x _ (h | h)
        · exact (hM x).2 (.inr (.inl h))
        · exact (hM x).2 (.inl h)
end Go.Proofs.Ytnpgloeldoiekaa
/- BM: layer 16: contracts of package queue (rest: of a queue that is not there). -/
namespace Go.Proofs.Ytnpgloeldoiekaa
open Go.RowKit Go.V
theorem qadd16_nil (r : Rq) (u : Value) (F : Nat → Prop) (w : World) (hu : Rd w F u (bys r.g)) :
    Calls Try.prog 12 #[.pointer none, r.v u] w fun e w' => e = .returned (.int .i64 16) ∧ Below w.heap.size w w' := by
  obtain ⟨A, c, rfl⟩ := hu.shape
  rw [show r.v (.slice A r.g.length c) = .agg (r.l (.slice A r.g.length c)).toArray from rfl]
  have hB : Below w.heap.size w (w.alloc (.cells (r.l (.slice A r.g.length c)).toArray 32)) := (Below.refl _ _).alloc (Nat.le_refl _) _
  obtain ⟨L, hL⟩ : ∃ L, L = r.l (.slice A r.g.length c) := ⟨_, rfl⟩
  rw [← hL] at hB ⊢
  clear hL hu
  go_enter Try.func12, Try.ntmps12
  go_wp2
  go_ret
  exact ⟨rfl, hB⟩
theorem qbatch16_nil (a : List Rp) (w : World) (_ha : a.length = 6) :
    Calls Try.prog 15 #[.pointer none, .agg (ras a).toArray] w fun e w' => ∃ v', e = .returned v' ∧ Rd w' (fun b => w.heap.size ≤ b) v' (rqs []) ∧ Below w.heap.size w w' := by
  have hB : Below w.heap.size w (w.alloc (.cells (ras a).toArray 37)) := (Below.refl _ _).alloc (Nat.le_refl _) _
  obtain ⟨X, hX⟩ : ∃ q, q = ras a := ⟨_, rfl⟩
  rw [← hX] at hB ⊢
  clear hX
  go_enter Try.func15, Try.ntmps15
  go_wp2
  go_ret
  exact ⟨_, rfl, (OQ.nil _ _).rd, hB⟩
theorem qdrop16_nil (a : List Rp) (w : World) (_ha : a.length = 6) :
    Calls Try.prog 17 #[.pointer none, .agg (ras a).toArray] w fun e w' => e = .returned (.tuple #[]) ∧ Below w.heap.size w w' := by
  have hB : Below w.heap.size w (w.alloc (.cells (ras a).toArray 37)) := (Below.refl _ _).alloc (Nat.le_refl _) _
  obtain ⟨X, hX⟩ : ∃ q, q = ras a := ⟨_, rfl⟩
  rw [← hX] at hB ⊢
  clear hX
  go_enter Try.func17, Try.ntmps17
  go_wp2
  refine bodyPost_ret (results_none rfl _ _ _) rfl ?_
  exact ⟨rfl, hB⟩
theorem qall16_nil (w : World) :
    Calls Try.prog 19 #[.pointer none] w fun e w' => ∃ v', e = .returned v' ∧ Rd w' (fun b => w.heap.size ≤ b) v' (rqs []) ∧ Below w.heap.size w w' := by
  go_enter Try.func19, Try.ntmps19
  go_wp2
  go_ret
  exact ⟨_, rfl, (OQ.nil _ _).rd, Below.refl _ _⟩
theorem qlen16_nil (w : World) :
    Calls Try.prog 20 #[.pointer none] w fun e w' => e = .returned (.int .i64 0) ∧ Below w.heap.size w w' := by
  go_enter Try.func20, Try.ntmps20
  go_wp2
  go_ret
  exact ⟨rfl, Below.refl _ _⟩
end Go.Proofs.Ytnpgloeldoiekaa
