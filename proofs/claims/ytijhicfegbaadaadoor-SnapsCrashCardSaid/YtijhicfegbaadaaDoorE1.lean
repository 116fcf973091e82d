/- E1: several texts in one (E0 E1). -/
import Derived.Test.YtijhicfegbaadaaDoorEP
import Derived.Test.YtijhicfegbaadaaDoorSlc
import Derived.Great.Walk
/- E0: layer 10: small functions of the landed code: names, what a thing puts, clones. -/
namespace Go.Proofs.YtijhicfegbaadaaDoor
open Go.RowKit Go.V Go.Maps
theorem isName_any (n : ByteArray) (w : World) :
    Calls Tryd.prog 53 #[.string n] w fun e w' => e = .returned (.bool (namF n)) ∧ w' = w := by
  by_cases h1 : n.size = 0
  · have h1I : ¬ 0 < (n.size : Int) := by omega
    have hd1 : decide (0 < (n.size : Int)) = false := decide_eq_false h1I
    have hr : Hid (namF n = false) := decide_eq_false (fun h => by omega)
    clear h1
    go_enter Tryd.func53, Tryd.ntmps53
    go_wp2
    go_ret
    exact ⟨by rw [hr.out]; rfl, rfl⟩
  · have h1I : 0 < (n.size : Int) := by omega
    have hd1 : decide (0 < (n.size : Int)) = true := decide_eq_true h1I
    by_cases h2 : n.size ≤ 24
    · have h2I : (n.size : Int) ≤ 24 := by omega
      have hd2 : decide ((n.size : Int) ≤ 24) = true := decide_eq_true h2I
      have hr : Hid (namF n = true) := decide_eq_true ⟨by omega, h2⟩
      clear h1
      go_enter Tryd.func53, Tryd.ntmps53
      go_wp2
      go_ret
      exact ⟨by rw [hr.out]; rfl, rfl⟩
    · have h2I : ¬ (n.size : Int) ≤ 24 := by omega
      have hd2 : decide ((n.size : Int) ≤ 24) = false := decide_eq_false h2I
      have hr : Hid (namF n = false) := decide_eq_false (fun h => h2 h.2)
      clear h1
      go_enter Tryd.func53, Tryd.ntmps53
      go_wp2
      go_ret
      exact ⟨by rw [hr.out]; rfl, rfl⟩
theorem puts_any (a : Ac) (u : Value) (w : World) :
    Calls Tryd.prog 35 #[thV a u] w fun e w' => e = .returned (.bool (putsF a)) ∧ Below w.heap.size w w' := by
  unfold thV
  by_cases h0 : a.k = 0
  · have hd : (a.k == 0) = true := beq_iff_eq.2 h0
    have hr : Hid (putsF a = true) := decide_eq_true (.inl h0)
    clear h0
    go_enter Tryd.func35, Tryd.ntmps35
    go_wp2
    go_ret
    exact ⟨by rw [hr.out]; rfl, (Below.refl _ _).alloc (Nat.le_refl _) _⟩
  · have hd : (a.k == 0) = false := beq_eq_false_iff_ne.2 h0
    by_cases h1 : a.k = 1
    · have hd1 : (a.k == 1) = true := beq_iff_eq.2 h1
      have hr : Hid (putsF a = true) := decide_eq_true (.inr h1)
      clear h0 h1
      go_enter Tryd.func35, Tryd.ntmps35
      go_wp2
      go_ret
      exact ⟨by rw [hr.out]; rfl, (Below.refl _ _).alloc (Nat.le_refl _) _⟩
    · have hd1 : (a.k == 1) = false := beq_eq_false_iff_ne.2 h1
      have hr : Hid (putsF a = false) := decide_eq_false (by rintro (h | h); exact h0 h; exact h1 h)
      clear h0 h1
      go_enter Tryd.func35, Tryd.ntmps35
      go_wp2
      go_ret
      exact ⟨by rw [hr.out]; rfl, (Below.refl _ _).alloc (Nat.le_refl _) _⟩
theorem sclone_any (s : ByteArray) (w : World) (_hs : s.size ≤ maxLen) (hs2 : s.size ≤ 281474976710656) :
    Calls Tryd.prog 57 #[.string s] w fun e w' => e = .returned (.string s) ∧ Below w.heap.size w w' := by
  go_enter Tryd.func57, Tryd.ntmps57
  go_wp2_with (fail)
  refine (Tryd.stringslite_Clone s _ hs2).mono ?_
  rintro e w1 ⟨rfl, hB⟩
  go_wp2
  go_ret
  exact ⟨rfl, hB⟩
set_option maxRecDepth 100000 in
set_option maxHeartbeats 2000000 in
theorem bclone_any (bs : List UInt8) (F : Nat → Prop) (v : Value) (w : World) (h : Rd w F v (bys bs)) (hb : bs.length ≤ 1000000000) :
    Calls Tryd.prog 34 #[v] w fun e w' => ∃ v', e = .returned v' ∧ w'.ownsRow w.heap.size 5 1 v' bs.length (bvs bs) ∧ Below w.heap.size w w' := by
  obtain ⟨A, c, rfl⟩ := h.shape
  have hsr := h.src
  cases A with
  | none =>
    obtain ⟨h0, h1⟩ := hsr.none0
    have h2 : Hid (bs = []) := List.eq_nil_of_length_eq_zero h0
    rw [h0]
    clear h h0 h1 hsr
    have hnil := fun W : World => (by kernel_rfl : (Go.binOp BinOp.eql 22 (.slice none 0 c) (.slice none 0 0)).run Tryd.prog W = .ok (.bool true) W)
    go_enter Tryd.func34, Tryd.ntmps34
    go_wp2
    go_ret
    exact ⟨_, rfl, by rw [h2.out]; exact World.ownsRow_nil _ _ _ _, Below.refl _ _⟩
  | some ad =>
    have hnil := fun W : World => (by kernel_rfl : (Go.binOp BinOp.eql 22 (.slice (some ad) bs.length c) (.slice none 0 0)).run Tryd.prog W = .ok (.bool false) W)
    have Hbs := hid (fun W : World => (by kernel_rfl : (Instr.buildSlice 22 0 #[]).run Tryd.prog W = .ok (.slice (some ⟨W.heap.size, 0, none⟩) 0 0) (W.alloc (.cells #[] 5))))
    go_enter Tryd.func34, Tryd.ntmps34
    go_wp2_with (first | (refine wp_bs0 22 5 rfl rfl Hbs.out ?_; intro v9 w9 ho9 hB9; have hsr9 := (h.below hB9).src) | (refine wp_app (.tmp 5) (.tmp 6) slB rfl rfl rfl ho9 rfl hsr9 (oneCell_bvs _) (by simp only [maxLen]; omega) (by omega) hB9.size ?_; intro v8 w8 ho8 hG8 _; refine wp_stop ?_) | go_in)
    have hB8 : Below w.heap.size w w8 := hB9.grown hG8 hB9.size (fun k hk => (ho9.lt k hk).1)
    rw [List.nil_append, Nat.zero_add] at ho8
    obtain ⟨A8, c8, rfl⟩ := own_shape ho8
    clear ho9 hB9 hG8 hsr hsr9 h
    refine wp_go ?_
    go_wp2
    go_ret
    exact ⟨_, rfl, ho8, hB8⟩
end Go.Proofs.YtijhicfegbaadaaDoor
/- E1: layer 10: rename, do: what is done to files that are a map with rows of its own. -/
namespace Go.V
def gX (b : Nat) (M : Nat → Prop) : Nat → Prop := fun y => y = b ∨ M y
end Go.V
namespace Go.Proofs.YtijhicfegbaadaaDoor
open Go.RowKit Go.V Go.Maps
/-- what is left of files to which something was done -/
def DoX (w : World) (M : Nat → Prop) (b : Nat) (R : List Fl) (e : Ending) (w' : World) : Prop :=
  e = .returned (.tuple #[]) ∧ (∃ M', FX w' M' b R ∧ ∀ y, M' y → M y ∨ w.heap.size ≤ y) ∧ Ch (gX b M) w w'
set_option maxRecDepth 100000 in
set_option maxHeartbeats 4000000 in
theorem rename_e (b : Nat) (L : List Fl) (M : Nat → Prop) (s t : ByteArray) (w : World) (h : FX w M b L) (hLn : L.length < maxLen) (hsz : s.size ≤ maxLen) (hst : t.size ≤ maxLen) :
    Calls Tryd.prog 52 #[.map (some b), .string s, .string t] w (DoX w M b (match findF L s with | some bb => ⟨t, bb⟩ :: woF (woF L s) t | none => L)) := by
  obtain ⟨hM, hMb, hMw⟩ := h
  have hbl := hM.lt
  cases hf : findF L s with
  | none =>
    have hs : (findF L s).isSome = false := by rw [hf]; rfl
    clear hf
    have hM0 := hM
    go_enter Tryd.func52, Tryd.ntmps52
    go_wp2_with (first | (at_lookup; refine wp_lookO 54 22 (.tmp 9) (.tmp 10) rfl rfl Tryd.underlying9 Tryd.underlying54 (zSl10 _) rfl hM rfl hsz ?_; intro A7 c7 ho7 hb7 hM7) | go_in)
    refine Go.Great.bodyPost_end0 rfl rfl ?_
    exact ⟨rfl, ⟨M, ⟨hM0, hMb, hMw⟩, fun _ h => .inl h⟩, Ch.refl _ _⟩
  | some bb =>
    have hs : (findF L s).isSome = true := by rw [hf]; rfl
    have hbb : Hid ((findF L s).getD [] = bb) := hid (by rw [hf]; rfl)
    have hLn2 : (woF L s).length < maxLen := Nat.lt_of_le_of_lt (List.length_filter_le _ _) hLn
    clear hf
    go_enter Tryd.func52, Tryd.ntmps52
    go_wp2_with (first | (at_lookup; refine wp_lookO 54 22 (.tmp 9) (.tmp 10) rfl rfl Tryd.underlying9 Tryd.underlying54 (zSl10 _) rfl hM rfl hsz ?_; intro A7 c7 ho7 hb7 hM7; clear hM) | (at_delete; refine wp_delO 54 22 (.tmp 16) (.tmp 17) rfl rfl Tryd.underlying9 Tryd.underlying54 rfl hM7 rfl hsz (fun e => hMb e.1) (ok' := anyN) (fun n hn _ => hn) ?_; intro w3 hM3 hg3 hs3; refine wp_stop ?_) | go_in)
    have hne : ∀ y, (Value.slice A7 ((findF L s).getD []).length c7).ownBlock = some y → y ≠ b := fun y hy e => hMb (e ▸ hb7 y hy)
    have ho3 := own_keep10 ho7 (fun y hy he => hg3.block y hy (fun e => by injection e with e; exact hne y he e))
    have hM4 := hM3.weak (ok' := notN t) (fun y _ h => h) (fun _ _ => trivial)
    have hv4 : ∀ y, (Value.slice A7 ((findF L s).getD []).length c7).ownBlock = some y → ¬ (M y ∧ (Value.slice A7 ((findF L s).getD []).length c7).ownBlock ≠ some y) ∧ y ≠ b := fun y hy => ⟨fun e => e.2 hy, hne y hy⟩
    have hc3 : Ch (gX b M) w w3 := (Ch.refl _ _).grow hg3 (fun k hk => .inl (.inl (by injection hk with hk; exact hk.symm)))
    clear ho7 hM7 hg3 hM3
    refine wp_go ?_
    go_wp2_with (first | (at_mapUpdate; refine wp_putO 54 22 (.tmp 18) (.tmp 19) (.tmp 20) rfl rfl Tryd.underlying9 Tryd.underlying54 rfl hM4 hLn2 rfl hst rfl ho3 hv4 (fun e => hMb e.1) ?_; intro w5 hM5 hg5 hs5; refine wp_stop ?_) | go_in)
    have hz5 := hg5.size
    have hz3 := hc3.size
    have hfin : ∃ M', FX w5 M' b (⟨t, (findF L s).getD []⟩ :: woF (woF L s) t) ∧ ∀ y, M' y → M y ∨ w.heap.size ≤ y := ⟨_, ⟨hM5, (by rintro (e | e); exact hMb e.1; exact hne b e rfl), (by
      rintro y (e | e)
      · have := hMw y e.1; omega
      · have := hMw y (hb7 y e); omega)⟩, (by
      rintro y (e | e)
      · exact .inl e.1
      · exact .inl (hb7 y e))⟩
    rw [hbb.out] at hfin
    have Hfin := hid hfin
    have hcf := hc3.grow hg5 (fun k hk => .inl (.inl (by injection hk with hk; exact hk.symm)))
    clear hfin hM5 hg5 hM4 ho3 hv4 hne hb7 hbb
    refine wp_go ?_
    go_wp2
    refine Go.Great.bodyPost_end0 rfl rfl ?_
    exact ⟨rfl, Hfin.out, hcf⟩
set_option maxRecDepth 100000 in
set_option maxHeartbeats 4000000 in
theorem do_e (b : Nat) (L : List Fl) (M F : Nat → Prop) (a : Ac) (va : Value) (w : World) (h : FX w M b L) (hF : ∀ y, F y → ¬ M y ∧ y ≠ b) (hva : Rd w F va (bys a.b)) (hLn : L.length < maxLen) (hsz : a.n.size ≤ maxLen) (hst : a.t.size ≤ maxLen) (hab : a.b.length ≤ 1000000000) (hfl : ((findF L a.n).getD []).length ≤ 1000000000) :
    Calls Tryd.prog 36 #[.map (some b), thV a va] w (DoX w M b (doM L a)) := by
  obtain ⟨Aa, ca, rfl⟩ := hva.shape
  obtain ⟨h, hMb, hMw⟩ := h
  have hbl := h.lt
  unfold thV
  have hbb := Blk.new' w 60 [.int .i64 a.k, .string a.n, .string a.t, .slice Aa a.b.length ca]
  have hB : Below w.heap.size w (w.alloc (.cells [.int .i64 a.k, .string a.n, .string a.t, .slice Aa a.b.length ca].toArray 60)) := (Below.refl _ _).alloc (Nat.le_refl _) _
  have h := h.below hB
  have hva := hva.below hB
  have c0 := hbb.cellAt 0 _ rfl
  have c1 := hbb.cellAt 1 _ rfl
  have c2 := hbb.cellAt 2 _ rfl
  have c3 := hbb.cellAt 3 _ rfl
  have hws : (w.alloc (.cells [.int .i64 a.k, .string a.n, .string a.t, .slice Aa a.b.length ca].toArray 60)).heap.size = w.heap.size + 1 := by simp
  obtain ⟨R, hR⟩ : ∃ R, R = doM L a := ⟨_, rfl⟩
  rw [← hR]
  have HR := hid hR
  clear hR
  have hchw := (Ch.of_below hB).weaken (G' := gX b M) (fun _ _ e => e.elim)
  have hMwq : ∀ y, M y → y < w.heap.size + 1 := fun y hy => by have := hMw y hy; omega
  by_cases hk0 : a.k = 0
  · have HR : Hid (⟨a.n, (findF L a.n).getD [] ++ a.b⟩ :: woF L a.n = R) := hid (by rw [HR.out]; unfold doM; rw [if_pos hk0])
    have hd0 : (a.k == 0) = true := beq_iff_eq.2 hk0
    clear hk0 hchw
    go_enter Tryd.func36, Tryd.ntmps36
    go_upto_region 3 with (fail)
    obtain ⟨wq, hwq⟩ : ∃ x, x = w.alloc (.cells [.int .i64 a.k, .string a.n, .string a.t, .slice Aa a.b.length ca].toArray 60) := ⟨_, rfl⟩
    rw [← hwq] at hbb hB h hva c0 c1 c2 c3 hws ⊢
    clear hwq
    obtain ⟨g, hg⟩ : ∃ g, g = w.heap.size := ⟨_, rfl⟩
    rw [← hg] at hbb c0 c1 c2 c3 ⊢
    have hgG : ¬ gX b M g := by
      rintro (e | e)
      · omega
      · have := hMw g e; omega
    have hqs : w.heap.size ≤ wq.heap.size := by omega
    clear hg
    replace hMw : ∀ y, M y → y < wq.heap.size := fun y hy => by have := hMw y hy; omega
    have hchw : Ch (gX b M) w wq := (Ch.of_below hB).weaken (fun _ _ e => e.elim)
    have HN : Hid (∀ W, Ch (gX b M) wq W → W.cell? ⟨g, 1, none⟩ = some (.string a.n)) := hid fun W hc => (hbb.ch hc hgG).cellAt 1 _ rfl
    have HC : Hid (∀ W, Ch (gX b M) wq W → W.cell? ⟨g, 3, none⟩ = some (.slice Aa a.b.length ca)) := hid fun W hc => (hbb.ch hc hgG).cellAt 3 _ rfl
    have HB : Hid (∀ W, Ch (gX b M) wq W → Rd W F (.slice Aa a.b.length ca) (bys a.b)) := hid fun W hc => hva.ch hc (fun y hy e => by rcases e with e | e; exact (hF y hy).2 e; exact (hF y hy).1 e)
    clear c0 c1 c2 c3 hbb hva
    have hM : FO Tryd.prog 9 5 wq.drew M anyN b L := h.keep rfl (fun y _ _ => rfl)
    clear h hB hMwq
    refine wp_region_noPanic ?_
    refine wp_region_held_drew (S := Ch (gX b M) wq) (by kernel_rfl) ((Ch.refl _ _).drew) (fun hHeld => ?_)
    refine wpAnyH_take (i := 0) (oi := ⟨some 8, _, _, _, _, none⟩) (v := ?_) rfl (by kernel_rfl) (by kernel_rfl) (by kernel_rfl) (fun _ _ _ h => h) (Or.inl ⟨by rfl, ?_⟩) (by assumption) ?_
    rotate_left
    · intro w hSw; go_simp; try with_reducible rfl
    try simp only [Act.put, List.setIfInBounds_toArray, List.set_cons_zero, List.set_cons_succ]
    refine wpAnyH_take (i := 1) (oi := ⟨some 9, _, _, _, _, none⟩) (v := ?_) rfl (by kernel_rfl) (by kernel_rfl) (by kernel_rfl) (fun _ _ _ h => h) (Or.inl ⟨by rfl, ?_⟩) (by assumption) ?_
    rotate_left
    · intro w hSw; go_simp; try with_reducible rfl
    try simp only [Act.put, List.setIfInBounds_toArray, List.set_cons_zero, List.set_cons_succ]
    refine wpAnyH_take (i := 2) (oi := ⟨some 10, _, _, _, _, none⟩) (v := ?_) rfl (by kernel_rfl) (by kernel_rfl) (by kernel_rfl) (fun _ _ _ h => h) (Or.inl ⟨by rfl, ?_⟩) (by assumption) ?_
    rotate_left
    · intro w hSw; have hcw := HN.out w hSw; go_simp; try with_reducible rfl
    try simp only [Act.put, List.setIfInBounds_toArray, List.set_cons_zero, List.set_cons_succ]
    refine wpAnyH_take (i := 3) (oi := ⟨some 11, _, _, _, _, none⟩) (v := ?_) rfl (by kernel_rfl) (by kernel_rfl) (by kernel_rfl) (fun _ _ _ h => h) (Or.inl ⟨by rfl, ?_⟩) (by assumption) ?_
    rotate_left
    · intro w hSw; go_simp; try with_reducible rfl
    try simp only [Act.put, List.setIfInBounds_toArray, List.set_cons_zero, List.set_cons_succ]
    refine wpAnyH_take (i := 4) (oi := ⟨some 12, _, _, _, _, none⟩) (v := ?_) rfl (by kernel_rfl) (by kernel_rfl) (by kernel_rfl) (fun _ _ _ h => h) (Or.inl ⟨by rfl, ?_⟩) (by assumption) ?_
    rotate_left
    · intro w hSw; go_simp; try with_reducible rfl
    try simp only [Act.put, List.setIfInBounds_toArray, List.set_cons_zero, List.set_cons_succ]
    refine wpAnyH_take (i := 5) (oi := ⟨some 13, _, _, _, _, none⟩) (v := ?_) rfl (by kernel_rfl) (by kernel_rfl) (by kernel_rfl) (fun _ _ _ h => h) (Or.inl ⟨by rfl, ?_⟩) (by assumption) ?_
    rotate_left
    · intro w hSw; have hcw := HN.out w hSw; go_simp; try with_reducible rfl
    try simp only [Act.put, List.setIfInBounds_toArray, List.set_cons_zero, List.set_cons_succ]
    refine wpAnyH_take (i := 7) (oi := ⟨some 15, _, _, _, _, none⟩) (v := ?_) rfl (by kernel_rfl) (by kernel_rfl) (by kernel_rfl) (fun _ _ _ h => h) (Or.inl ⟨by rfl, ?_⟩) (by assumption) ?_
    rotate_left
    · intro w hSw; go_simp; try with_reducible rfl
    try simp only [Act.put, List.setIfInBounds_toArray, List.set_cons_zero, List.set_cons_succ]
    refine wpAnyH_take (i := 8) (oi := ⟨some 16, _, _, _, _, none⟩) (v := ?_) rfl (by kernel_rfl) (by kernel_rfl) (by kernel_rfl) (fun _ _ _ h => h) (Or.inl ⟨by rfl, ?_⟩) (by assumption) ?_
    rotate_left
    · intro w hSw; have hcw := HC.out w hSw; go_simp; try with_reducible rfl
    try simp only [Act.put, List.setIfInBounds_toArray, List.set_cons_zero, List.set_cons_succ]
    refine wpAnyH_ready (rs := [6]) (by kernel_rfl) (by simp) ?_
    refine AllReadyH.cons (o := ⟨some 14, .lookup _ _ _ _, _, _, _, none⟩) rfl (fun K hK => ?_) AllReadyH.nil
    refine step_lookO 54 22 (.tmp 11) (.tmp 13) (by rfl) (by rfl) Tryd.underlying9 Tryd.underlying54 (zSl10 _) (by rfl) hM (by rfl) hsz ?_
    intro A6 c6 ho6 hb6 hM6
    refine hK.out _ _ (hHeld) (fun hHeld => ?_)
    clear hK K
    try simp only [Act.put, List.setIfInBounds_toArray, List.set_cons_zero, List.set_cons_succ]
    refine wpAnyH_ready (rs := [9]) (by kernel_rfl) (by simp) ?_
    refine AllReadyH.cons (o := ⟨some 17, _, _, _, _, none⟩) rfl (fun K hK => ?_) AllReadyH.nil
    have hsr := (HB.out _ hHeld).src
    have hz9 := hHeld.size
    refine step_appO (.tmp 14) (.tmp 16) slB (by rfl) (by rfl) (base := 0) (by rfl) ho6 (by rfl) hsr (oneCell_bvs _) (by simp only [maxLen]; omega) (by omega) (Nat.zero_le _) ?_
    intro v9 w9 ho9 hG9 hd9
    have hM9 := hM6.keep (hG9.block b hM6.lt (fun e => hMb (hb6 b e.symm))) (fun y hy h => hG9.block y hy (fun e => h.2 e.symm))
    rw [show (((findF L a.n).getD []).length + a.b.length) = ((findF L a.n).getD [] ++ a.b).length from by simp, show bvs ((findF L a.n).getD []) ++ bvs a.b = bvs ((findF L a.n).getD [] ++ a.b) from by simp [bvs]] at ho9
    have hl6 := hM6.lt
    have hv9 : ∀ y, v9.ownBlock = some y → ¬ (M y ∧ (Value.slice A6 ((findF L a.n).getD []).length c6).ownBlock ≠ some y) ∧ y ≠ b := fun y hy => by
        rcases hd9 with h | h
        · exact ⟨fun e => e.2 (h.symm.trans hy), fun e => hMb (hb6 b (by rw [← e]; exact h.symm.trans hy))⟩
        · rw [h] at hy
          injection hy with hy
          exact ⟨fun e => by have := hMw y e.1; omega, by omega⟩
    have hw9 : ∀ y, v9.ownBlock = some y → M y ∨ wq.heap.size ≤ y := fun y hy => by
        rcases hd9 with h | h
        · exact .inl (hb6 y (h.symm.trans hy))
        · rw [h] at hy
          injection hy with hy
          exact .inr (by omega)
    refine hK.out _ _ (hHeld.grow hG9 (fun k hk => .inl (.inr (hb6 k hk)))) (fun hHeld => ?_)
    clear hK K
    try simp only [Act.put, List.setIfInBounds_toArray, List.set_cons_zero, List.set_cons_succ]
    refine wpAnyH_ready (rs := [10]) (by kernel_rfl) (by simp) ?_
    refine AllReadyH.cons (o := ⟨none, _, _, _, _, none⟩) rfl (fun K hK => ?_) AllReadyH.nil
    refine step_putO 54 22 (.tmp 8) (.tmp 10) (.tmp 17) (by rfl) (by rfl) Tryd.underlying9 Tryd.underlying54 (by rfl) hM9 hLn (by rfl) hsz (by rfl) ho9 hv9 (fun e => hMb e.1) ?_
    intro w10 hM10 hG10 hs10
    refine hK.out _ _ (hHeld.grow hG10 (fun k hk => .inl (.inl (by injection hk with hk; exact hk.symm)))) (fun hHeld => ?_)
    clear hK K
    try simp only [Act.put]
    refine wpAnyH_done (by kernel_rfl) ?_ _
    refine NoPanic.normal ?_
    have hz10 := hHeld.size
    have hfin : ∃ M', FX w10 M' b R ∧ ∀ y, M' y → M y ∨ w.heap.size ≤ y := ⟨_, ⟨HR.out ▸ hM10, (by rintro (e | e); exact hMb e.1; exact (hv9 b e).2 rfl), (by
        have hlt : ∀ y, v9.ownBlock = some y → y < w10.heap.size := fun y e => Nat.lt_of_lt_of_le (ho9.lt y e).2 hG10.size
        rintro y (e | e); exact Nat.lt_of_lt_of_le (hMw y e.1) hz10; exact hlt y e)⟩, (by
        rintro y (e | e)
        · exact .inl e.1
        · rcases hw9 y e with h | h
          · exact .inl h
          · exact .inr (by omega))⟩
    have Hfin := hid hfin
    have hcf := hchw.trans hHeld
    clear hfin hM10 hG10 hM9 ho9 hG9 hd9 hM6 ho6 hb6 hv9 hw9 hsr
    go_wp2
    refine Go.Great.bodyPost_end0 rfl rfl ?_
    exact ⟨rfl, Hfin.out, hcf⟩
  have hd0 : (a.k == 0) = false := by simpa using hk0
  by_cases hk1 : a.k = 1
  · have HR : Hid (⟨a.n, a.b⟩ :: woF L a.n = R) := hid (by rw [HR.out]; unfold doM; rw [if_neg hk0, if_pos hk1])
    have hd1 : (a.k == 1) = true := beq_iff_eq.2 hk1
    clear hk0 hk1 hchw
    go_enter Tryd.func36, Tryd.ntmps36
    go_upto_region 5 with (fail)
    obtain ⟨wq, hwq⟩ : ∃ x, x = w.alloc (.cells [.int .i64 a.k, .string a.n, .string a.t, .slice Aa a.b.length ca].toArray 60) := ⟨_, rfl⟩
    rw [← hwq] at hbb hB h hva c0 c1 c2 c3 hws ⊢
    clear hwq
    obtain ⟨g, hg⟩ : ∃ g, g = w.heap.size := ⟨_, rfl⟩
    rw [← hg] at hbb c0 c1 c2 c3 ⊢
    have hgG : ¬ gX b M g := by
      rintro (e | e)
      · omega
      · have := hMw g e; omega
    have hqs : w.heap.size ≤ wq.heap.size := by omega
    clear hg
    replace hMw : ∀ y, M y → y < wq.heap.size := fun y hy => by have := hMw y hy; omega
    have hchw : Ch (gX b M) w wq := (Ch.of_below hB).weaken (fun _ _ e => e.elim)
    have HN : Hid (∀ W, Ch (gX b M) wq W → W.cell? ⟨g, 1, none⟩ = some (.string a.n)) := hid fun W hc => (hbb.ch hc hgG).cellAt 1 _ rfl
    have HC : Hid (∀ W, Ch (gX b M) wq W → W.cell? ⟨g, 3, none⟩ = some (.slice Aa a.b.length ca)) := hid fun W hc => (hbb.ch hc hgG).cellAt 3 _ rfl
    have HB : Hid (∀ W, Ch (gX b M) wq W → Rd W F (.slice Aa a.b.length ca) (bys a.b)) := hid fun W hc => hva.ch hc (fun y hy e => by rcases e with e | e; exact (hF y hy).2 e; exact (hF y hy).1 e)
    clear c0 c1 c2 c3 hbb hva
    have hM : FO Tryd.prog 9 5 wq.drew M anyN b L := h.keep rfl (fun y _ _ => rfl)
    clear h hB hMwq
    refine wp_region_noPanic ?_
    refine wp_region_held_drew (S := Ch (gX b M) wq) (by kernel_rfl) ((Ch.refl _ _).drew) (fun hHeld => ?_)
    refine wpAnyH_take (i := 0) (oi := ⟨some 20, _, _, _, _, none⟩) (v := ?_) rfl (by kernel_rfl) (by kernel_rfl) (by kernel_rfl) (fun _ _ _ h => h) (Or.inl ⟨by rfl, ?_⟩) (by assumption) ?_
    rotate_left
    · intro w hSw; go_simp; try with_reducible rfl
    try simp only [Act.put, List.setIfInBounds_toArray, List.set_cons_zero, List.set_cons_succ]
    refine wpAnyH_take (i := 1) (oi := ⟨some 21, _, _, _, _, none⟩) (v := ?_) rfl (by kernel_rfl) (by kernel_rfl) (by kernel_rfl) (fun _ _ _ h => h) (Or.inl ⟨by rfl, ?_⟩) (by assumption) ?_
    rotate_left
    · intro w hSw; go_simp; try with_reducible rfl
    try simp only [Act.put, List.setIfInBounds_toArray, List.set_cons_zero, List.set_cons_succ]
    refine wpAnyH_take (i := 2) (oi := ⟨some 22, _, _, _, _, none⟩) (v := ?_) rfl (by kernel_rfl) (by kernel_rfl) (by kernel_rfl) (fun _ _ _ h => h) (Or.inl ⟨by rfl, ?_⟩) (by assumption) ?_
    rotate_left
    · intro w hSw; have hcw := HN.out w hSw; go_simp; try with_reducible rfl
    try simp only [Act.put, List.setIfInBounds_toArray, List.set_cons_zero, List.set_cons_succ]
    refine wpAnyH_take (i := 3) (oi := ⟨some 23, _, _, _, _, none⟩) (v := ?_) rfl (by kernel_rfl) (by kernel_rfl) (by kernel_rfl) (fun _ _ _ h => h) (Or.inl ⟨by rfl, ?_⟩) (by assumption) ?_
    rotate_left
    · intro w hSw; go_simp; try with_reducible rfl
    try simp only [Act.put, List.setIfInBounds_toArray, List.set_cons_zero, List.set_cons_succ]
    refine wpAnyH_take (i := 4) (oi := ⟨some 24, _, _, _, _, none⟩) (v := ?_) rfl (by kernel_rfl) (by kernel_rfl) (by kernel_rfl) (fun _ _ _ h => h) (Or.inl ⟨by rfl, ?_⟩) (by assumption) ?_
    rotate_left
    · intro w hSw; have hcw := HC.out w hSw; go_simp; try with_reducible rfl
    try simp only [Act.put, List.setIfInBounds_toArray, List.set_cons_zero, List.set_cons_succ]
    refine wpAnyH_ready (rs := [5]) (by kernel_rfl) (by simp) ?_
    refine AllReadyH.cons (o := ⟨some 25, _, _, _, _, none⟩) rfl (fun K hK => ?_) AllReadyH.nil
    go_simp
    have hz5 := hHeld.size
    have hMc := hM.lt
    refine (bclone_any a.b F _ _ (HB.out _ hHeld) hab).mono ?_
    rintro e w5 ⟨v5, rfl, ho5, hB5⟩
    have hM5 := (hM.below hB5).weak (M' := M) (ok' := notN a.n) (fun y _ h => h) (fun _ _ => trivial)
    have hv5 : ∀ y, v5.ownBlock = some y → ¬ M y ∧ y ≠ b := fun y hy => by
        have := (ho5.lt y hy).1
        exact ⟨fun e => by have := hMw y e; omega, by omega⟩
    have hw5 : ∀ y, v5.ownBlock = some y → wq.heap.size ≤ y ∧ y < w5.heap.size := fun y hy => ⟨by have := (ho5.lt y hy).1; omega, (ho5.lt y hy).2⟩
    obtain ⟨A5, c5, rfl⟩ := own_shape8 ho5
    replace ho5 := own_weak (base' := 0) ho5 (Nat.zero_le _)
    refine hK.out _ _ (hHeld.belowG hB5) (fun hHeld => ?_)
    clear hK K
    try simp only [Act.put, List.setIfInBounds_toArray, List.set_cons_zero, List.set_cons_succ]
    refine wpAnyH_ready (rs := [6]) (by kernel_rfl) (by simp) ?_
    refine AllReadyH.cons (o := ⟨none, _, _, _, _, none⟩) rfl (fun K hK => ?_) AllReadyH.nil
    refine step_putO 54 22 (.tmp 20) (.tmp 22) (.tmp 25) (by rfl) (by rfl) Tryd.underlying9 Tryd.underlying54 (by rfl) hM5 hLn (by rfl) hsz (by rfl) ho5 hv5 hMb ?_
    intro w6 hM6 hG6 hs6
    refine hK.out _ _ (hHeld.grow hG6 (fun k hk => .inl (.inl (by injection hk with hk; exact hk.symm)))) (fun hHeld => ?_)
    clear hK K
    try simp only [Act.put]
    refine wpAnyH_done (by kernel_rfl) ?_ _
    refine NoPanic.normal ?_
    have hz6 := hHeld.size
    have hfin : ∃ M', FX w6 M' b R ∧ ∀ y, M' y → M y ∨ w.heap.size ≤ y := ⟨_, ⟨HR.out ▸ hM6, (by rintro (e | e); exact hMb e; exact (hv5 b e).2 rfl), (by
        rintro y (e | e); exact Nat.lt_of_lt_of_le (hMw y e) hz6; exact Nat.lt_of_lt_of_le (hw5 y e).2 hG6.size)⟩, (by
        rintro y (e | e)
        · exact .inl e
        · exact .inr (by have := (hw5 y e).1; omega))⟩
    have Hfin := hid hfin
    have hcf := hchw.trans hHeld
    clear hfin hM6 hG6 hM5 ho5 hB5 hv5 hw5
    go_wp2
    refine Go.Great.bodyPost_end0 rfl rfl ?_
    exact ⟨rfl, Hfin.out, hcf⟩
  have hd1 : (a.k == 1) = false := by simpa using hk1
  by_cases hk2 : a.k = 2
  · have hd2 : (a.k == 2) = true := beq_iff_eq.2 hk2
    have HR : Hid (R = (match findF L a.n with | some bb => ⟨a.t, bb⟩ :: woF (woF L a.n) a.t | none => L)) := hid (by rw [HR.out]; unfold doM; rw [if_neg hk0, if_neg hk1, if_pos hk2]; cases findF L a.n <;> rfl)
    have HX : Hid (FX (w.alloc (.cells [.int .i64 a.k, .string a.n, .string a.t, .slice Aa a.b.length ca].toArray 60)) M b L) := hid ⟨h, hMb, fun y hy => by rw [hws]; exact hMwq y hy⟩
    clear hk0 hk1 hk2 hva h
    go_enter Tryd.func36, Tryd.ntmps36
    go_wp2_with (fail)
    refine (rename_e b L M a.n a.t _ HX.out hLn hsz hst).mono ?_
    rintro e w1 ⟨rfl, ⟨M', hX, hM'⟩, hC⟩
    have hfin : ∃ M', FX w1 M' b R ∧ ∀ y, M' y → M y ∨ w.heap.size ≤ y := ⟨M', HR.out ▸ hX, fun y hy => (hM' y hy).imp id (fun h => by rw [hws] at h; omega)⟩
    have Hfin := hid hfin
    have hcf := hchw.trans hC
    clear hfin hX hM' hC hbb c0 c1 c2 c3 HX
    go_wp2
    refine Go.Great.bodyPost_end0 rfl rfl ?_
    exact ⟨rfl, Hfin.out, hcf⟩
  have hd2 : (a.k == 2) = false := by simpa using hk2
  have hMws : ∀ y, M y → y < (w.alloc (.cells [.int .i64 a.k, .string a.n, .string a.t, .slice Aa a.b.length ca].toArray 60)).heap.size := fun y hy => by rw [hws]; exact hMwq y hy
  by_cases hk3 : a.k = 3
  · have HR : Hid (woF L a.n = R) := hid (by rw [HR.out]; unfold doM; rw [if_neg hk0, if_neg hk1, if_neg hk2, if_pos hk3])
    have hd3 : (a.k == 3) = true := beq_iff_eq.2 hk3
    clear hk0 hk1 hk2 hk3 hva
    go_enter Tryd.func36, Tryd.ntmps36
    go_wp2_with (first | (at_delete; refine wp_delO 54 22 (.tmp 36) (.tmp 38) rfl rfl Tryd.underlying9 Tryd.underlying54 rfl h rfl hsz hMb (ok' := anyN) (fun n hn _ => trivial) ?_; intro w3 hM3 hg3 hs3) | go_in)
    go_frame
    go_wp2
    refine Go.Great.bodyPost_end0 rfl rfl ?_
    exact ⟨rfl, ⟨M, ⟨HR.out ▸ hM3, hMb, fun y hy => Nat.lt_of_lt_of_le (hMws y hy) hg3.size⟩, fun _ h => .inl h⟩, hchw.grow hg3 (fun k hk => .inl (.inl (by injection hk with hk; exact hk.symm)))⟩
  · have hd3 : (a.k == 3) = false := by simpa using hk3
    have HR : Hid (L = R) := hid (by rw [HR.out]; unfold doM; rw [if_neg hk0, if_neg hk1, if_neg hk2, if_neg hk3])
    clear hk0 hk1 hk2 hk3 hva
    go_enter Tryd.func36, Tryd.ntmps36
    go_wp2
    refine Go.Great.bodyPost_end0 rfl rfl ?_
    exact ⟨rfl, ⟨M, ⟨HR.out ▸ h, hMb, hMws⟩, fun _ h => .inl h⟩, hchw⟩
end Go.Proofs.YtijhicfegbaadaaDoor
