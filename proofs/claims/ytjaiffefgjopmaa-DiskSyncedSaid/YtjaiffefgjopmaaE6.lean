/- E6: layer 10: Append, Write, Rename, Delete, Read, Names, Pending, Down, Fuse, New of the landed disk. -/
import Derived.Test.YtjaiffefgjopmaaE5
namespace Go.Proofs.Ytjaiffefgjopmaa
open Go.RowKit Go.V Go.Maps
set_option maxRecDepth 100000 in
set_option maxHeartbeats 2000000 in
theorem append_e (x s f : Nat) (Ms Mf F G : Nat → Prop) (c : Nat → Nat) (d : Dk) (vp : Value) (xs : List Value) (a : Ac) (va : Value) (w : World) (h : IE w x s f Ms Mf F c d vp xs) (hs : DkSm d) (ha : AcSm a) (hk : a.k = 0) (hva : Rd w G va (bys a.b)) (hG : ∀ y, G y → y ≠ x) :
    Calls Try.prog 28 #[.pointer (some ⟨x, 0, none⟩), .string a.n, va] w fun e w' => e = .returned (.int .i64 (doF d a).2) ∧ LfE w x s f Ms Mf F vp (doF d a).1 w' := by
  have hb : (nrmA a).b = a.b := by unfold nrmA; rw [if_pos (.inl hk)]
  have hth : thV (nrmA a) va = .agg #[.int .i64 0, .string a.n, .string ByteArray.empty, va] := by
    unfold thV nrmA
    rw [if_pos (.inl hk), hk]
  have hc := dom_e x s f Ms Mf F G c d vp xs a (nrmA a) va w h hs ha (by omega) rfl (by rw [hb]; exact hva) hG
  rw [hth] at hc
  obtain ⟨R, hR⟩ : ∃ R, R = doF d a := ⟨_, rfl⟩
  rw [← hR] at hc ⊢
  have HC := hid hc
  obtain ⟨A, ca, rfl⟩ := hva.shape
  clear hR hth hb h hva hc
  go_enter Try.func28, Try.ntmps28
  go_wp2_with (fail)
  refine HC.out.mono ?_
  rintro e w1 ⟨rfl, hL⟩
  clear HC
  go_wp2
  go_ret
  exact ⟨rfl, hL⟩
set_option maxRecDepth 100000 in
set_option maxHeartbeats 2000000 in
theorem write_e (x s f : Nat) (Ms Mf F G : Nat → Prop) (c : Nat → Nat) (d : Dk) (vp : Value) (xs : List Value) (a : Ac) (va : Value) (w : World) (h : IE w x s f Ms Mf F c d vp xs) (hs : DkSm d) (ha : AcSm a) (hk : a.k = 1) (hva : Rd w G va (bys a.b)) (hG : ∀ y, G y → y ≠ x) :
    Calls Try.prog 21 #[.pointer (some ⟨x, 0, none⟩), .string a.n, va] w fun e w' => e = .returned (.int .i64 (doF d a).2) ∧ LfE w x s f Ms Mf F vp (doF d a).1 w' := by
  have hb : (nrmA a).b = a.b := by unfold nrmA; rw [if_pos (.inr hk)]
  have hth : thV (nrmA a) va = .agg #[.int .i64 1, .string a.n, .string ByteArray.empty, va] := by
    unfold thV nrmA
    rw [if_pos (.inr hk), hk]
  have hc := dom_e x s f Ms Mf F G c d vp xs a (nrmA a) va w h hs ha (by omega) rfl (by rw [hb]; exact hva) hG
  rw [hth] at hc
  obtain ⟨R, hR⟩ : ∃ R, R = doF d a := ⟨_, rfl⟩
  rw [← hR] at hc ⊢
  have HC := hid hc
  obtain ⟨A, ca, rfl⟩ := hva.shape
  clear hR hth hb h hva hc
  go_enter Try.func21, Try.ntmps21
  go_wp2_with (fail)
  refine HC.out.mono ?_
  rintro e w1 ⟨rfl, hL⟩
  clear HC
  go_wp2
  go_ret
  exact ⟨rfl, hL⟩
set_option maxRecDepth 100000 in
set_option maxHeartbeats 2000000 in
theorem rename10_e (x s f : Nat) (Ms Mf F : Nat → Prop) (c : Nat → Nat) (d : Dk) (vp : Value) (xs : List Value) (a : Ac) (w : World) (h : IE w x s f Ms Mf F c d vp xs) (hs : DkSm d) (ha : AcSm a) (hk : a.k = 2) :
    Calls Try.prog 29 #[.pointer (some ⟨x, 0, none⟩), .string a.n, .string a.t] w fun e w' => e = .returned (.int .i64 (doF d a).2) ∧ LfE w x s f Ms Mf F vp (doF d a).1 w' := by
  have hb : (nrmA a).b = [] := by unfold nrmA; rw [if_neg (by omega), if_pos hk]
  have hth : thV (nrmA a) (.slice none 0 0) = .agg #[.int .i64 2, .string a.n, .string a.t, .slice none 0 0] := by
    unfold thV nrmA
    rw [if_neg (by omega), if_pos hk, hk]
  have hc := dom_e x s f Ms Mf F (fun _ => False) c d vp xs a (nrmA a) (.slice none 0 0) w h hs ha (by omega) rfl (by rw [hb]; exact Rd.nil _ _) (fun _ e => e.elim)
  rw [hth] at hc
  obtain ⟨R, hR⟩ : ∃ R, R = doF d a := ⟨_, rfl⟩
  rw [← hR] at hc ⊢
  have HC := hid hc
  clear hR hth hb h hc
  go_enter Try.func29, Try.ntmps29
  go_wp2_with (fail)
  refine HC.out.mono ?_
  rintro e w1 ⟨rfl, hL⟩
  clear HC
  go_wp2
  go_ret
  exact ⟨rfl, hL⟩
set_option maxRecDepth 100000 in
set_option maxHeartbeats 2000000 in
theorem delete10_e (x s f : Nat) (Ms Mf F : Nat → Prop) (c : Nat → Nat) (d : Dk) (vp : Value) (xs : List Value) (a : Ac) (w : World) (h : IE w x s f Ms Mf F c d vp xs) (hs : DkSm d) (ha : AcSm a) (hk : a.k = 3) :
    Calls Try.prog 30 #[.pointer (some ⟨x, 0, none⟩), .string a.n] w fun e w' => e = .returned (.int .i64 (doF d a).2) ∧ LfE w x s f Ms Mf F vp (doF d a).1 w' := by
  have hb : (nrmA a).b = [] := by unfold nrmA; rw [if_neg (by omega), if_neg (by omega)]
  have hth : thV (nrmA a) (.slice none 0 0) = .agg #[.int .i64 3, .string a.n, .string ByteArray.empty, .slice none 0 0] := by
    unfold thV nrmA
    rw [if_neg (by omega), if_neg (by omega), hk]
  have hc := dom_e x s f Ms Mf F (fun _ => False) c d vp xs a (nrmA a) (.slice none 0 0) w h hs ha (by omega) rfl (by rw [hb]; exact Rd.nil _ _) (fun _ e => e.elim)
  rw [hth] at hc
  obtain ⟨R, hR⟩ : ∃ R, R = doF d a := ⟨_, rfl⟩
  rw [← hR] at hc ⊢
  have HC := hid hc
  clear hR hth hb h hc
  go_enter Try.func30, Try.ntmps30
  go_wp2_with (fail)
  refine HC.out.mono ?_
  rintro e w1 ⟨rfl, hL⟩
  clear HC
  go_wp2
  go_ret
  exact ⟨rfl, hL⟩
set_option maxRecDepth 100000 in
set_option maxHeartbeats 2000000 in
theorem read_e (x s f : Nat) (Ms Mf F : Nat → Prop) (c : Nat → Nat) (d : Dk) (vp : Value) (xs : List Value) (n : ByteArray) (w : World) (h : IE w x s f Ms Mf F c d vp xs) (hs : DkSm d) (hn : n.size ≤ maxLen) :
    Calls Try.prog 23 #[.pointer (some ⟨x, 0, none⟩), .string n] w fun e w' => ∃ vb, e = .returned (.tuple #[vb, .int .i64 (if (findF (nowF d) n).isSome = true then 0 else 13)]) ∧ Rd w' (fun b => w.heap.size ≤ b) vb (bys ((findF (nowF d) n).getD [])) ∧ Below w.heap.size w w' := by
  have c2 := h.hb.cellAt 2 _ rfl
  have hM := h.mf.fms
  have hft := find_tot (nowF d) n
  have hnb := now_bd d.pend d.syn
  have hst := hs.t
  have hfl : ((findF (nowF d) n).getD []).length ≤ 1000000000 := by unfold nowF at hft ⊢; omega
  clear hft hnb hst h
  cases hf : findF (nowF d) n with
  | none =>
    have hi : (findF (nowF d) n).isSome = false := by rw [hf]; rfl
    clear hf
    go_enter Try.func23, Try.ntmps23
    go_wp2_with (first | (at_lookup; refine wp_lookF 61 29 (.tmp 14) (.tmp 15) rfl rfl Try.underlying9 Try.underlying61 (zSl10 _) rfl hM rfl hn ?_; intro A7 c7 hv7) | go_in)
    go_ret2
    exact ⟨_, rfl, Rd.nil _ _, Below.refl _ _⟩
  | some bb =>
    have hi : (findF (nowF d) n).isSome = true := by rw [hf]; rfl
    have hbb : (findF (nowF d) n).getD [] = bb := by rw [hf]; rfl
    have HB := hid hbb
    clear hf hbb
    go_enter Try.func23, Try.ntmps23
    go_wp2_with (first | (at_lookup; refine wp_lookF 61 29 (.tmp 14) (.tmp 15) rfl rfl Try.underlying9 Try.underlying61 (zSl10 _) rfl hM rfl hn ?_; intro A7 c7 hv7; refine wp_stop ?_) | fail)
    refine wp_go ?_
    go_wp2_with (fail)
    refine (bclone_any _ Mf _ _ hv7 hfl).mono ?_
    rintro e w8 ⟨v8, rfl, ho8, hB8⟩
    have hr8 := Rd.of_own ho8
    rw [HB.out] at hr8
    have HR := hid hr8
    obtain ⟨A8, c8, rfl⟩ := own_shape8 ho8
    clear ho8 hr8 c2 hM hv7
    go_wp2
    go_ret2
    exact ⟨_, rfl, HR.out, hB8⟩
set_option maxRecDepth 100000 in
set_option maxHeartbeats 2000000 in
theorem names10_e (x s f : Nat) (Ms Mf F : Nat → Prop) (c : Nat → Nat) (d : Dk) (vp : Value) (xs : List Value) (w : World) (h : IE w x s f Ms Mf F c d vp xs) (hs : DkSm d) :
    Calls Try.prog 27 #[.pointer (some ⟨x, 0, none⟩)] w fun e w' => ∃ vn, e = .returned vn ∧ Rd w' (fun y => w.heap.size ≤ y) vn (strs ((nowF d).map Fl.n)) ∧ Below w.heap.size w w' := by
  have hnb := now_bd d.pend d.syn
  have hsn := hs.n
  have c2 := h.hb.cellAt 2 _ rfl
  have hc := names_e f (nowF d) Mf w h.mf.fms (srt_now _ h.st) (by unfold nowF; omega) h.nf
  have HC := hid hc
  clear hc h hnb hsn hs
  go_enter Try.func27, Try.ntmps27
  go_wp2_with (fail)
  refine HC.out.mono ?_
  rintro e w1 ⟨vn, rfl, hR, hB⟩
  have hsh := strs_shape hR
  obtain ⟨A, cc, rfl⟩ := hsh
  rw [List.length_map] at hR
  have HR := hid hR
  clear HC c2 hR
  go_wp2
  go_ret
  exact ⟨_, rfl, HR.out, hB⟩
set_option maxRecDepth 100000 in
set_option maxHeartbeats 2000000 in
theorem down_e (x s f : Nat) (Ms Mf F : Nat → Prop) (c : Nat → Nat) (d : Dk) (vp : Value) (xs : List Value) (w : World) (h : IE w x s f Ms Mf F c d vp xs) :
    Calls Try.prog 16 #[.pointer (some ⟨x, 0, none⟩)] w fun e w' => e = .returned (.bool d.down) ∧ w' = w := by
  have c5 := h.hb.cellAt 5 _ rfl
  clear h
  go_enter Try.func16, Try.ntmps16
  go_wp2
  go_ret
  exact ⟨by rfl, rfl⟩
set_option maxRecDepth 100000 in
set_option maxHeartbeats 2000000 in
theorem pending_e (x s f : Nat) (Ms Mf F : Nat → Prop) (c : Nat → Nat) (d : Dk) (vp : Value) (xs : List Value) (w : World) (h : IE w x s f Ms Mf F c d vp xs) :
    Calls Try.prog 19 #[.pointer (some ⟨x, 0, none⟩)] w fun e w' => e = .returned (.int .i64 (d.pend.length : Int)) ∧ w' = w := by
  obtain ⟨A, cc, hvp⟩ := own_shape8 h.ho
  have c3 := h.hb.cellAt 3 _ rfl
  rw [hvp] at c3
  clear h hvp
  go_enter Try.func19, Try.ntmps19
  go_wp2
  go_ret
  exact ⟨by rfl, rfl⟩
set_option maxRecDepth 100000 in
set_option maxHeartbeats 2000000 in
theorem fuse_e (x s f : Nat) (Ms Mf F : Nat → Prop) (c : Nat → Nat) (d : Dk) (vp : Value) (xs : List Value) (a : Ac) (w : World) (h : IE w x s f Ms Mf F c d vp xs) (_ha : AcSm a) (hk : a.k = 7) :
    Calls Try.prog 31 #[.pointer (some ⟨x, 0, none⟩), .int .i64 a.m] w fun e w' => e = .returned (.tuple #[]) ∧ LfE w x s f Ms Mf F vp (doF d a).1 w' := by
  have hdo : (doF d a).1 = if d.down = true then d else { d with fuse := a.m } := by
    unfold doF
    rw [if_neg (by omega), if_neg (by omega), if_neg (by omega), if_pos hk]
    split <;> rfl
  have c5 := h.hb.cellAt 5 _ rfl
  have hb := h.hb
  obtain ⟨R, hR⟩ : ∃ R, R = (doF d a).1 := ⟨_, rfl⟩
  rw [← hR] at hdo ⊢
  have hcl : (dcZ d s f vp).length = 6 := rfl
  have Hh := hid h
  clear hR h
  cases hd : d.down with
  | true =>
    rw [hd] at c5
    have Hdo : Hid (R = d) := hid (by rw [hdo, if_pos hd])
    clear hd hdo hb
    go_enter Try.func31, Try.ntmps31
    go_wp2
    refine bodyPost_ret (results_none rfl _ _ _) rfl ?_
    rw [Hdo.out]
    exact ⟨rfl, Hh.out.same (Ch.refl _ _)⟩
  | false =>
    rw [hd] at c5
    have Hdo : Hid (R = { d with fuse := a.m }) := hid (by rw [hdo, if_neg (by rw [hd]; simp)])
    have Hd := hid hd
    clear hd hdo
    go_enter Try.func31, Try.ntmps31
    go_wp2_with (refine wp_st1 3 (.tmp 16) (.tmp 14) rfl rfl rfl (f := 4) rfl (v := .int .i64 (max a.m (-1))) rfl hb (by rw [hcl]; omega) sizeI10 rfl rfl ?_; intro w1 hb1 hG1; refine wp_stop ?_)
    have hb1 : Blk w1 x 64 (dcZ { d with fuse := a.m } s f vp) := hb1
    have hC1 : Ch (fun y => y = x) w w1 := (Ch.refl _ _).grow hG1 (fun k hk => .inl (by injection hk with hk; exact hk.symm))
    have hI := Hh.out.blk hb1 hC1 rfl rfl (fun e => by have := Hd.out; have e : d.down = true := e; rw [this] at e; cases e)
    have HI := hid hI
    clear hb hb1 hG1 hI c5
    refine wp_go ?_
    go_wp2
    refine Go.Great.bodyPost_end0 rfl rfl ?_
    rw [Hdo.out]
    exact ⟨rfl, s, f, Ms, Mf, F, c, vp, xs, HI.out, hC1.weaken (fun _ _ e => .inl e), fun _ e => .inl e, fun _ e => .inl e⟩
set_option maxRecDepth 100000 in
set_option maxHeartbeats 2000000 in
theorem new10_e (r : Int) (w : World) : Calls Try.prog 11 #[.int .i64 r] w fun e w' => ∃ x s f Ms Mf c, e = .returned (.pointer (some ⟨x, 0, none⟩)) ∧ IE w' x s f Ms Mf (fun _ => False) c ⟨roomF r, [], [], -1, false⟩ (.slice none 0 0) [] ∧ Below w.heap.size w w' ∧ ∀ y, mIE x s f Ms Mf (.slice none 0 0) y → w.heap.size ≤ y := by
  obtain ⟨R, hR, hRm⟩ : ∃ R : Int, min (max r 0) 1048576 = R ∧ R = roomF r := ⟨_, rfl, by unfold roomF; split <;> (try split) <;> omega⟩
  have HR := hid hRm
  have hmm := @run_makeMap Try.prog
  clear hRm
  go_enter Try.func11, Try.ntmps11
  go_wp2
  go_ret
  have ea : (w.alloc (.map #[] 0)).heap.size = w.heap.size + 1 := by simp
  have eb : ((w.alloc (.map #[] 0)).alloc (.map #[] 0)).heap.size = w.heap.size + 1 + 1 := by simp
  have h1 := (FO.made (P := Try.prog) (k := 9) (e := 5) (w := w) (M := fun _ => False) (ok := anyN))
  have h2 := (FO.made (P := Try.prog) (k := 9) (e := 5) (w := w.alloc (.map #[] 0)) (M := fun _ => False) (ok := anyN))
  have b1 := (Below.refl w.heap.size w).alloc (Nat.le_refl _) (.map #[] 0)
  have b2 := (Below.refl (w.alloc (.map #[] 0)).heap.size (w.alloc (.map #[] 0))).alloc (Nat.le_refl _) (.map #[] 0)
  have h3 := Blk.new' ((w.alloc (.map #[] 0)).alloc (.map #[] 0)) 64 [.int .i64 R, .map (some w.heap.size), .map (some (w.heap.size + 1)), .slice none 0 0, .int .i64 (-1), .bool false]
  have b3 := (Below.refl ((w.alloc (.map #[] 0)).alloc (.map #[] 0)).heap.size ((w.alloc (.map #[] 0)).alloc (.map #[] 0))).alloc (Nat.le_refl _) (.cells [.int .i64 R, .map (some w.heap.size), .map (some (w.heap.size + 1)), .slice none 0 0, .int .i64 (-1), .bool false].toArray 64)
  have h1 := (h1.below b2).below b3
  have h2 := h2.below b3
  rw [ea] at h2
  rw [eb] at h3
  refine ⟨_, w.heap.size, w.heap.size + 1, fun _ => False, fun _ => False, fun y => if y = w.heap.size + 1 + 1 then 0 else if y = w.heap.size then 1 else 2, rfl, ?_, (b1.trans (b2.mono (by omega))).trans (b3.mono (by omega)), ?_⟩
  · rw [← HR.out]
    exact ⟨h3, h1, h2, ⟨by simp, .inl ⟨rfl, rfl⟩⟩, by simp [WdX], if_pos rfl, by rw [if_neg (by omega), if_pos rfl], by rw [if_neg (by omega), if_neg (by omega)], fun _ e => e.elim, fun _ e => e.elim, fun _ e => by simp [Value.ownBlock] at e, fun _ e => e.elim, List.Pairwise.nil, (fun e => by cases e), (fun _ e => by simp at e), (fun _ e => by simp at e)⟩
  · rintro y (e | e | e | e | e | e)
    · rw [e]; omega
    · omega
    · omega
    · exact e.elim
    · exact e.elim
    · simp [Value.ownBlock] at e
end Go.Proofs.Ytjaiffefgjopmaa
