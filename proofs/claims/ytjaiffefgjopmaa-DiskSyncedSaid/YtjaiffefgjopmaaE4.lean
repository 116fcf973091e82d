/- E4: layer 10: what holds of the landed disk; blows, refusal. -/
import Derived.Test.YtjaiffefgjopmaaE1
import Derived.Test.YtjaiffefgjopmaaE3
namespace Go.V
open Go.RowKit
theorem sz_int (a : Ac) (h : a.k = 0 ∨ a.k = 1) (l : List Fl) (hu : (l.map Fl.n).Nodup) : (szA a l : Int) = (tot l : Int) - losF l a + (a.b.length : Int) := by
  unfold losF
  by_cases h1 : a.k = 1
  · rw [if_pos h1]
    have h0 : a.k ≠ 0 := by omega
    have h2 : szA a l = a.b.length + tot (woF l a.n) := by unfold szA; rw [wo_sum a h0 l]
    have h3 := wo_tot_eq l a.n hu
    omega
  · rw [if_neg h1, sz_zero a (by omega)]
    omega
theorem los_bd (a : Ac) (l : List Fl) : 0 ≤ losF l a ∧ losF l a ≤ (tot l : Int) := by
  have := find_tot l a.n
  unfold losF
  split <;> omega
/-- why a thing can't be done to a disk that runs -/
def refF (d : Dk) (a : Ac) : Int :=
  if namF a.n = false ∨ (a.k = 2 ∧ namF a.t = false) then 15 else if a.k = 0 ∨ a.k = 1 then (if d.room < (szA a (nowF d) : Int) then 4 else 0) else if (findF (nowF d) a.n).isSome = false then 13 else 0
theorem do_ref {d : Dk} {a : Ac} (hk : 0 ≤ a.k ∧ a.k ≤ 3) (hd : d.down = false) : doF d a = if refF d a = 0 then pushF d a else (d, refF d a) := by
  by_cases h01 : a.k = 0 ∨ a.k = 1
  · rw [do_put h01, hd, if_neg (by simp)]
    by_cases h2 : namF a.n = false
    · have e : refF d a = 15 := by unfold refF; rw [if_pos (Or.inl h2)]
      rw [e, if_pos h2, if_neg (by omega)]
    · have hn : ¬ (namF a.n = false ∨ (a.k = 2 ∧ namF a.t = false)) := by rintro (h | h); exact h2 h; omega
      rw [if_neg h2]
      by_cases h3 : d.room < (szA a (nowF d) : Int)
      · have e : refF d a = 4 := by unfold refF; rw [if_neg hn, if_pos h01, if_pos h3]
        rw [e, if_pos h3, if_neg (by omega)]
      · have e : refF d a = 0 := by unfold refF; rw [if_neg hn, if_pos h01, if_neg h3]
        rw [e, if_neg h3, if_pos rfl]
  · rw [do_find (by omega), hd, if_neg (by simp)]
    by_cases h2 : namF a.n = false ∨ (a.k = 2 ∧ namF a.t = false)
    · have e : refF d a = 15 := by unfold refF; rw [if_pos h2]
      rw [e, if_pos h2, if_neg (by omega)]
    · rw [if_neg h2]
      cases hf : findF (nowF d) a.n with
      | none =>
        have e : refF d a = 13 := by unfold refF; rw [if_neg h2, if_neg h01, hf]; rfl
        rw [e]
        simp
      | some b =>
        have e : refF d a = 0 := by unfold refF; rw [if_neg h2, if_neg h01, hf, if_neg (by simp)]
        rw [e, if_neg (by simp), if_pos rfl]
/-- what holds of a thing that is kept -/
structure PdOk (a : Ac) : Prop where
  k : 0 ≤ a.k ∧ a.k ≤ 3
  sm : AcSm a
  n : a.n.size ≤ 24
  t : (nrmA a).t.size ≤ 24
theorem nrm_k (a : Ac) : (nrmA a).k = a.k := by unfold nrmA; split <;> (try split) <;> rfl
theorem nrm_n (a : Ac) : (nrmA a).n = a.n := by unfold nrmA; split <;> (try split) <;> rfl
theorem done_n24 {l : List Fl} {a : Ac} (hl : ∀ f ∈ l, f.n.size ≤ 24) (ha : PdOk a) : ∀ f ∈ doneF l a, f.n.size ≤ 24 := by
  intro f hf
  have hf := (doM_perm l a).mem_iff.2 hf
  have hw : ∀ (l : List Fl) n, (∀ f ∈ l, f.n.size ≤ 24) → ∀ f ∈ woF l n, f.n.size ≤ 24 := fun l n h f hf => h f (List.mem_filter.1 hf).1
  unfold doM at hf
  split at hf
  · rcases List.mem_cons.1 hf with rfl | hf
    · exact ha.n
    · exact hw _ _ hl f hf
  split at hf
  · rcases List.mem_cons.1 hf with rfl | hf
    · exact ha.n
    · exact hw _ _ hl f hf
  split at hf
  · rename_i h2
    split at hf
    · rcases List.mem_cons.1 hf with rfl | hf
      · have := ha.t
        unfold nrmA at this
        rw [if_neg (by omega), if_pos h2] at this
        exact this
      · exact hw _ _ (hw _ _ hl) f hf
    · exact hl f hf
  split at hf
  · exact hw _ _ hl f hf
  · exact hl f hf
theorem now_n24 : ∀ (p : List Ac) {l : List Fl}, (∀ f ∈ l, f.n.size ≤ 24) → (∀ a ∈ p, PdOk a) → ∀ f ∈ nowL l p, f.n.size ≤ 24
  | [], _, h, _ => h
  | a :: p, l, h, hp => now_n24 p (l := doneF l a) (done_n24 h (hp a (by simp))) (fun b hb => hp b (by simp [hb]))
theorem burn_down {d : Dk} (h : d.down = true → d.fuse = 0) : (burnF d).1.down = true → (burnF d).1.fuse = 0 := by
  intro h1
  have h2 : (d.down || (d.fuse == 0)) = true := h1
  have h3 : d.fuse = 0 := by
    rcases Bool.or_eq_true_iff.1 h2 with h4 | h4
    · exact h h4
    · exact beq_iff_eq.1 h4
  show (if 0 < d.fuse then d.fuse - 1 else d.fuse) = 0
  rw [h3]; rfl
end Go.V
namespace Go.Proofs.Ytjaiffefgjopmaa
open Go.RowKit Go.V Go.Maps
/-- the landed disk in block x, its maps in s and f with rows in Ms and Mf, what is pending in the row of vp, its bytes in F; c tells the blocks apart -/
structure IE (w : World) (x s f : Nat) (Ms Mf F : Nat → Prop) (c : Nat → Nat) (d : Dk) (vp : Value) (xs : List Value) : Prop where
  hb : Blk w x 64 (dcZ d s f vp)
  ms : FO Try.prog 9 5 w Ms anyN s d.syn
  mf : FO Try.prog 9 5 w Mf anyN f (nowF d)
  ho : w.ownsRow 0 76 4 vp d.pend.length xs
  hx : WdX w F apD (d.pend.map nrmA) xs
  cx : c x = 0
  cs : c s = 1
  cf : c f = 2
  cm : ∀ y, Ms y → c y = 3 ∧ y < w.heap.size
  cn : ∀ y, Mf y → c y = 4 ∧ y < w.heap.size
  cv : ∀ y, vp.ownBlock = some y → c y = 5
  cF : ∀ y, F y → c y = 6 ∧ y < w.heap.size
  st : srt d.syn
  dn : d.down = true → d.fuse = 0
  nS : ∀ f ∈ d.syn, f.n.size ≤ 24
  pd : ∀ a ∈ d.pend, PdOk a
/-- what it may write -/
def mIE (x s f : Nat) (Ms Mf : Nat → Prop) (vp : Value) : Nat → Prop := fun y => y = x ∨ y = s ∨ y = f ∨ Ms y ∨ Mf y ∨ vp.ownBlock = some y
variable {w w' : World} {x s f : Nat} {Ms Mf F : Nat → Prop} {c : Nat → Nat} {d : Dk} {vp : Value} {xs : List Value}
theorem IE.keep (h : IE w x s f Ms Mf F c d vp xs) (hk : ∀ y, y < w.heap.size → mIE x s f Ms Mf vp y ∨ F y → w'.heap[y]? = w.heap[y]?) (hs : w.heap.size ≤ w'.heap.size) : IE w' x s f Ms Mf F c d vp xs where
  hb := h.hb.keep (hk x h.hb.lt (.inl (.inl rfl)))
  ms := h.ms.keep (hk s h.ms.lt (.inl (.inr (.inl rfl)))) (fun y hy e => hk y hy (.inl (.inr (.inr (.inr (.inl e))))))
  mf := h.mf.keep (hk f h.mf.lt (.inl (.inr (.inr (.inl rfl))))) (fun y hy e => hk y hy (.inl (.inr (.inr (.inr (.inr (.inl e)))))))
  ho := own_keep10 h.ho (fun y hy e => hk y hy (.inl (.inr (.inr (.inr (.inr (.inr e)))))))
  hx := h.hx.keep (fun y hy e => ⟨e, hk y hy (.inr e)⟩)
  cx := h.cx
  cs := h.cs
  cf := h.cf
  cm := fun y e => ⟨(h.cm y e).1, by have := (h.cm y e).2; omega⟩
  cn := fun y e => ⟨(h.cn y e).1, by have := (h.cn y e).2; omega⟩
  cv := h.cv
  cF := fun y e => ⟨(h.cF y e).1, by have := (h.cF y e).2; omega⟩
  st := h.st
  dn := h.dn
  nS := h.nS
  pd := h.pd
theorem IE.ch (h : IE w x s f Ms Mf F c d vp xs) (hc : Ch nob w w') : IE w' x s f Ms Mf F c d vp xs := h.keep (fun y hy _ => hc.block y hy (fun e => e)) hc.size
theorem IE.below (h : IE w x s f Ms Mf F c d vp xs) (hB : Below w.heap.size w w') : IE w' x s f Ms Mf F c d vp xs := h.ch (.of_below hB)
theorem IE.nf (h : IE w x s f Ms Mf F c d vp xs) : ∀ f ∈ nowF d, f.n.size ≤ 24 := now_n24 _ h.nS h.pd
theorem IE.fxs (h : IE w x s f Ms Mf F c d vp xs) : FX w Ms s d.syn := ⟨h.ms, fun e => by have := (h.cm _ e).1; have := h.cs; omega, fun y e => (h.cm y e).2⟩
theorem IE.fxf (h : IE w x s f Ms Mf F c d vp xs) : FX w Mf f (nowF d) := ⟨h.mf, fun e => by have := (h.cn _ e).1; have := h.cf; omega, fun y e => (h.cn y e).2⟩
theorem IE.bd (h : IE w x s f Ms Mf F c d vp xs) : ∀ y, mIE x s f Ms Mf vp y ∨ F y → y < w.heap.size := by
  rintro y ((rfl | rfl | rfl | e | e | e) | e)
  · exact h.hb.lt
  · exact h.ms.lt
  · exact h.mf.lt
  · exact (h.cm y e).2
  · exact (h.cn y e).2
  · exact (h.ho.lt y e).2
  · exact (h.cF y e).2
/-- the fuse, the flag alone -/
theorem IE.blk {d' : Dk} (h : IE w x s f Ms Mf F c d vp xs) (hb : Blk w' x 64 (dcZ d' s f vp)) (hc : Ch (fun y => y = x) w w') (h1 : d'.syn = d.syn) (h2 : d'.pend = d.pend) (h3 : d'.down = true → d'.fuse = 0) : IE w' x s f Ms Mf F c d' vp xs := by
  have hn : nowF d' = nowF d := by unfold nowF; rw [h1, h2]
  have hk : ∀ y, y < w.heap.size → c y ≠ 0 → w'.heap[y]? = w.heap[y]? := fun y hy e => hc.block y hy (fun e2 => e (e2 ▸ h.cx))
  have hz := hc.size
  exact {
    hb := hb
    ms := by rw [h1]; exact h.ms.keep (hk s h.ms.lt (by have := h.cs; omega)) (fun y hy e => hk y hy (by have := (h.cm y e).1; omega))
    mf := by rw [hn]; exact h.mf.keep (hk f h.mf.lt (by have := h.cf; omega)) (fun y hy e => hk y hy (by have := (h.cn y e).1; omega))
    ho := by rw [h2]; exact own_keep10 h.ho (fun y hy e => hk y hy (by have := h.cv y e; omega))
    hx := by rw [h2]; exact h.hx.keep (fun y hy e => ⟨e, hk y hy (by have := (h.cF y e).1; omega)⟩)
    cx := h.cx
    cs := h.cs
    cf := h.cf
    cm := fun y e => ⟨(h.cm y e).1, by have := (h.cm y e).2; omega⟩
    cn := fun y e => ⟨(h.cn y e).1, by have := (h.cn y e).2; omega⟩
    cv := h.cv
    cF := fun y e => ⟨(h.cF y e).1, by have := (h.cF y e).2; omega⟩
    st := by rw [h1]; exact h.st
    dn := h3
    nS := by rw [h1]; exact h.nS
    pd := by rw [h2]; exact h.pd }
set_option maxRecDepth 100000 in
set_option maxHeartbeats 2000000 in
theorem blows_e (x s f : Nat) (vp : Value) (d : Dk) (w : World) (hb : Blk w x 64 (dcZ d s f vp)) (hf : -9223372036854775808 ≤ d.fuse ∧ d.fuse ≤ 9223372036854775807) (hd : d.down = false) :
    Calls Try.prog 38 #[.pointer (some ⟨x, 0, none⟩)] w fun e w' => e = .returned (.bool (burnF d).1.down) ∧ Blk w' x 64 (dcZ (burnF d).1 s f vp) ∧ Ch (fun y => y = x) w w' := by
  have hbl : (burnF d).1 = { d with down := d.down || (d.fuse == 0), fuse := if 0 < d.fuse then d.fuse - 1 else d.fuse } := rfl
  have hcl : (dcZ d s f vp).length = 6 := rfl
  obtain ⟨room, syn, pend, fuse, down⟩ := d
  dsimp only at hf hb hbl hd
  subst hd
  obtain ⟨B, hB⟩ : ∃ B, B = (burnF ⟨room, syn, pend, fuse, false⟩).1 := ⟨_, rfl⟩
  rw [← hB] at hbl ⊢
  have Hbl := hid hbl
  clear hB hbl
  have c4 := hb.cellAt 5 _ rfl
  by_cases h0 : fuse = 0
  · subst h0
    have c3 : w.cell? ⟨x, 4, none⟩ = some (.int .i64 0) := hb.cellAt 4 _ rfl
    go_enter Try.func38, Try.ntmps38
    go_wp2_with (refine wp_st1 4 (.tmp 11) (.const (.bool true)) rfl rfl rfl (f := 5) rfl (v := .bool true) rfl hb (by rw [hcl]; omega) sizeBool rfl rfl ?_; intro w1 hb1 hG1; refine wp_stop ?_)
    have hb1 : Blk w1 x 64 (dcZ ⟨room, syn, pend, 0, true⟩ s f vp) := hb1
    have d4 := hb1.cellAt 5 _ rfl
    have hC1 : Ch (fun y => y = x) w w1 := (Ch.refl _ _).grow hG1 (fun k hk => .inl (by injection hk with hk; exact hk.symm))
    have Hb2 : Hid (B = ⟨room, syn, pend, 0, true⟩) := by show _ = _; rw [Hbl.out]; simp
    have Hb1 := hid hb1
    clear c3 c4 hb hb1 hG1 Hbl
    refine wp_go ?_
    go_wp2
    go_ret
    exact ⟨by rw [Hb2.out]; rfl, by rw [Hb2.out]; exact Hb1.out, hC1⟩
  · have hb0 : (fuse == 0) = false := by rw [beq_eq_false_iff_ne]; exact h0
    by_cases h1 : 0 < fuse
    · have hw : IntKind.i64.wrap (fuse - 1) = fuse - 1 := IntWalk.i64_in _ (by omega)
      have hd0 : decide (0 < fuse) = true := decide_eq_true h1
      have c3 : w.cell? ⟨x, 4, none⟩ = some (.int .i64 fuse) := (hb.cellAt 4 _ rfl).trans (by rw [show max fuse (-1) = fuse from by omega])
      go_enter Try.func38, Try.ntmps38
      go_wp2_with (refine wp_st1 3 (.tmp 24) (.tmp 22) rfl rfl rfl (f := 4) rfl (v := .int .i64 (fuse - 1)) rfl hb (by rw [hcl]; omega) sizeI10 rfl rfl ?_; intro w1 hb1 hG1; refine wp_stop ?_)
      have hb1 : Blk w1 x 64 (dcZ ⟨room, syn, pend, fuse - 1, false⟩ s f vp) := by
        have e1 : dcZ ⟨room, syn, pend, fuse - 1, false⟩ s f vp = (dcZ ⟨room, syn, pend, fuse, false⟩ s f vp).set 4 (.int .i64 (fuse - 1)) := by
          unfold dcZ
          simp
          omega
        rw [e1]; exact hb1
      have hC1 : Ch (fun y => y = x) w w1 := (Ch.refl _ _).grow hG1 (fun k hk => .inl (by injection hk with hk; exact hk.symm))
      have d4 := hb1.cellAt 5 _ rfl
      have Hb2 : Hid (B = ⟨room, syn, pend, fuse - 1, false⟩) := by show _ = _; rw [Hbl.out, hb0, if_pos h1]; simp
      have Hb1 := hid hb1
      clear c3 c4 hb hb1 hG1 Hbl hw
      refine wp_go ?_
      go_wp2
      go_ret
      exact ⟨by rw [Hb2.out]; rfl, by rw [Hb2.out]; exact Hb1.out, hC1⟩
    · have Hb2 : Hid (B = ⟨room, syn, pend, fuse, false⟩) := by show _ = _; rw [Hbl.out, hb0, if_neg h1]; simp
      have c3 : w.cell? ⟨x, 4, none⟩ = some (.int .i64 (-1)) := (hb.cellAt 4 _ rfl).trans (by rw [show max fuse (-1) = -1 from by omega])
      clear Hbl
      go_enter Try.func38, Try.ntmps38
      go_wp2
      go_ret
      exact ⟨by rw [Hb2.out]; rfl, by rw [Hb2.out]; exact hb, Ch.refl _ _⟩
set_option maxRecDepth 100000 in
set_option maxHeartbeats 4000000 in
theorem refusal_e (x s f : Nat) (vp : Value) (F : Nat → Prop) (d : Dk) (a : Ac) (Aa : Option Addr) (ca : Nat) (w : World) (hb : Blk w x 64 (dcZ d s f vp)) (hM : FMs Try.prog 9 w F f (nowF d)) (hs : DkSm d) (hn : a.n.size ≤ maxLen) (hab : a.b.length ≤ 1000000000) :
    Calls Try.prog 49 #[.pointer (some ⟨x, 0, none⟩), thV a (.slice Aa a.b.length ca)] w fun e w' => e = .returned (.int .i64 (refF d a)) ∧ Below w.heap.size w w' := by
  have hnb := now_bd d.pend d.syn
  have hst := hs.t
  have htt : tot (nowF d) ≤ 1000000000 := by unfold nowF; omega
  have hzz := fun h => sz_int a h (nowF d) (hM.uq (string_keyed Try.underlying9))
  have hlb := los_bd a (nowF d)
  have hrm := hs.r
  unfold thV
  have b0 := Blk.new' w 76 (apL a (.slice Aa a.b.length ca))
  have hB0 : Below w.heap.size w (w.alloc (.cells (apL a (.slice Aa a.b.length ca)).toArray 76)) := (Below.refl _ _).alloc (Nat.le_refl _) _
  replace hb := hb.below hB0
  replace hM := hM.below hB0
  obtain ⟨w0, hw0⟩ : ∃ u, u = w.alloc (.cells (apL a (.slice Aa a.b.length ca)).toArray 76) := ⟨_, rfl⟩
  rw [← hw0] at b0 hB0 hb hM
  clear hnb hst hs
  go_enter Try.func49, Try.ntmps49
  go_wp2_with (fail)
  change Calls _ _ _ (w.alloc (.cells (apL a (.slice Aa a.b.length ca)).toArray 76)) _
  rw [← hw0]
  clear hw0
  obtain ⟨g, hg⟩ : ∃ g, g = w.heap.size := ⟨_, rfl⟩
  rw [← hg] at b0 ⊢
  clear hg
  refine (isName_any a.n _).mono ?_
  rintro e w1 ⟨rfl, rfl⟩
  have q0 := b0.cellAt 0 _ rfl
  have q2 := b0.cellAt 2 _ rfl
  cases h1 : namF a.n with
  | false =>
    have hr : Hid (refF d a = 15) := hid (by unfold refF; rw [if_pos (.inl h1)])
    clear h1 hzz b0 hb hM q2
    go_wp2
    go_ret
    exact ⟨by rw [hr.out]; rfl, hB0⟩
  | true =>
    by_cases hk2 : a.k = 2
    · have e2 : (a.k == 2) = true := beq_iff_eq.2 hk2
      have e20 : (a.k == 0) = false := beq_eq_false_iff_ne.2 (by omega)
      have hpf : putsF a = false := decide_eq_false (by omega)
      have hr0 : namF a.t = true → Hid (refF d a = if (findF (nowF d) a.n).isSome = false then 13 else 0) := fun h => hid (by unfold refF; rw [if_neg (by rintro (e | e); rw [h1] at e; cases e; rw [h] at e; cases e.2), if_neg (by omega)])
      have hr1 : namF a.t = false → Hid (refF d a = 15) := fun h => hid (by unfold refF; rw [if_pos (.inr ⟨hk2, h⟩)])
      have HP := hid hpf
      clear h1 hk2 hzz hpf
      go_wp2_with (fail)
      refine (isName_any a.t _).mono ?_
      rintro e w2 ⟨rfl, rfl⟩
      cases h3 : namF a.t with
      | false =>
        have hr := hr1 h3
        clear hr0 hr1 h3 b0 hb hM q2
        go_wp2
        go_ret
        exact ⟨by rw [hr.out]; rfl, hB0⟩
      | true =>
        have hr := hr0 h3
        clear hr0 hr1 h3 q0 q2
        go_wp2_with (first | (refine wp_ld 76 (.tmp 3) rfl rfl rfl b0.whole Try.underlying76 rfl sizeTh ?_) | fail)
        refine (puts_any a (.slice Aa a.b.length ca) _).mono ?_
        rintro e w2 ⟨rfl, hB2⟩
        rw [HP.out]
        have hb2 := hb.below hB2
        have b2 := b0.below hB2
        have hM2 := hM.below hB2
        replace hB0 := hB0.trans (hB2.mono hB0.size)
        clear b0 hb hM e2 HP hB2
        go_upto_region 7 with (fail)
        have HF : Hid (∀ W, Ch nob w2 W → W.cell? ⟨x, 2, none⟩ = some (.map (some f))) := hid fun W hc => (hb2.ch hc (fun h => h)).cellAt 2 _ rfl
        have HR : Hid (∀ W, Ch nob w2 W → W.cell? ⟨x, 0, none⟩ = some (.int .i64 d.room)) := hid fun W hc => (hb2.ch hc (fun h => h)).cellAt 0 _ rfl
        have HN : Hid (∀ W, Ch nob w2 W → W.cell? ⟨g, 1, none⟩ = some (.string a.n)) := hid fun W hc => (b2.ch hc (fun h => h)).cellAt 1 _ rfl
        have HC : Hid (∀ W, Ch nob w2 W → W.cell? ⟨g, 3, none⟩ = some (.slice Aa a.b.length ca)) := hid fun W hc => (b2.ch hc (fun h => h)).cellAt 3 _ rfl
        have HA : Hid (∀ W, Ch nob w2 W → W.rangeAt g 0 (apL a (.slice Aa a.b.length ca))) := hid fun W hc => (b2.ch hc (fun h => h)).whole
        have HM : Hid (∀ W, Ch nob w2 W → FMs Try.prog 9 W F f (nowF d)) := hid fun W hc => hM2.keep (hc.block f hM2.lt (fun h => h)) (fun y hy hF => ⟨hF, hc.block y hy (fun h => h)⟩)
        clear hb2 b2 hM2
        refine wp_region_noPanic ?_
        refine wp_region_held_drew (S := Ch nob w2) (by kernel_rfl) ((Ch.refl _ _).drew) (fun hHeld => ?_)
        refine wpAnyH_take (i := 0) (oi := ⟨some 43, _, _, _, _, none⟩) (v := ?_) rfl (by kernel_rfl) (by kernel_rfl) (by kernel_rfl) (fun _ _ _ h => h) (Or.inl ⟨by rfl, ?_⟩) (by assumption) ?_
        rotate_left
        · intro w hSw; go_simp; try with_reducible rfl
        try simp only [Act.put, List.setIfInBounds_toArray, List.set_cons_zero, List.set_cons_succ]
        refine wpAnyH_take (i := 1) (oi := ⟨some 44, _, _, _, _, none⟩) (v := ?_) rfl (by kernel_rfl) (by kernel_rfl) (by kernel_rfl) (fun _ _ _ h => h) (Or.inl ⟨by rfl, ?_⟩) (by assumption) ?_
        rotate_left
        · intro w hSw; go_simp; try with_reducible rfl
        try simp only [Act.put, List.setIfInBounds_toArray, List.set_cons_zero, List.set_cons_succ]
        refine wpAnyH_take (i := 2) (oi := ⟨some 45, _, _, _, _, none⟩) (v := ?_) rfl (by kernel_rfl) (by kernel_rfl) (by kernel_rfl) (fun _ _ _ h => h) (Or.inl ⟨by rfl, ?_⟩) (by assumption) ?_
        rotate_left
        · intro w hSw; go_simp; try with_reducible rfl
        try simp only [Act.put, List.setIfInBounds_toArray, List.set_cons_zero, List.set_cons_succ]
        refine wpAnyH_take (i := 3) (oi := ⟨some 46, _, _, _, _, none⟩) (v := ?_) rfl (by kernel_rfl) (by kernel_rfl) (by kernel_rfl) (fun _ _ _ h => h) (Or.inl ⟨by rfl, ?_⟩) (by assumption) ?_
        rotate_left
        · intro w hSw; have hcw := HF.out w hSw; go_simp; try with_reducible rfl
        try simp only [Act.put, List.setIfInBounds_toArray, List.set_cons_zero, List.set_cons_succ]
        refine wpAnyH_take (i := 4) (oi := ⟨some 47, _, _, _, _, none⟩) (v := ?_) rfl (by kernel_rfl) (by kernel_rfl) (by kernel_rfl) (fun _ _ _ h => h) (Or.inl ⟨by rfl, ?_⟩) (by assumption) ?_
        rotate_left
        · intro w hSw; go_simp; try with_reducible rfl
        try simp only [Act.put, List.setIfInBounds_toArray, List.set_cons_zero, List.set_cons_succ]
        refine wpAnyH_take (i := 5) (oi := ⟨some 48, _, _, _, _, none⟩) (v := ?_) rfl (by kernel_rfl) (by kernel_rfl) (by kernel_rfl) (fun _ _ _ h => h) (Or.inl ⟨by rfl, ?_⟩) (by assumption) ?_
        rotate_left
        · intro w hSw; have hcw := HN.out w hSw; go_simp; try with_reducible rfl
        try simp only [Act.put, List.setIfInBounds_toArray, List.set_cons_zero, List.set_cons_succ]
        refine wpAnyH_ready (rs := [6]) (by kernel_rfl) (by simp) ?_
        refine AllReadyH.cons (o := ⟨some 49, _, _, _, _, none⟩) rfl (fun K hK => ?_) AllReadyH.nil
        go_simp
        refine (has_e f (nowF d) F a.n _ (HM.out _ hHeld) hn).mono ?_
        rintro e w10 ⟨rfl, rfl⟩
        refine hK.out _ _ (hHeld) (fun hHeld => ?_)
        clear hK K
        try simp only [Act.put, List.setIfInBounds_toArray, List.set_cons_zero, List.set_cons_succ]
        refine wpAnyH_take (i := 7) (oi := ⟨some 50, _, _, _, _, none⟩) (v := ?_) rfl (by kernel_rfl) (by kernel_rfl) (by kernel_rfl) (fun _ _ _ h => h) (Or.inl ⟨by rfl, ?_⟩) (by assumption) ?_
        rotate_left
        · intro w hSw; go_simp; try with_reducible rfl
        try simp only [Act.put, List.setIfInBounds_toArray, List.set_cons_zero, List.set_cons_succ]
        refine wpAnyH_done (by kernel_rfl) ?_ _
        refine NoPanic.normal ?_
        have hC5 : Ch nob w2 _ := hHeld
        have hBf := Ch.below_of hB0 hC5 (fun _ h => h.elim) hB0.size
        clear HF HR HN HC HA HM hHeld
        cases hf : findF (nowF d) a.n with
        | none =>
          have hi : (findF (nowF d) a.n).isNone = true := by rw [hf]; rfl
          have hr2 : Hid (refF d a = 13) := hid (by rw [hr.out, hf]; rfl)
          clear hr hf
          go_wp2
          go_ret
          exact ⟨by rw [hr2.out]; rfl, hBf⟩
        | some bb =>
          have hi : (findF (nowF d) a.n).isNone = false := by rw [hf]; rfl
          have hr2 : Hid (refF d a = 0) := hid (by rw [hr.out, hf, if_neg (by simp)])
          clear hr hf
          go_wp2
          go_ret
          exact ⟨by rw [hr2.out]; rfl, hBf⟩
    · have e2 : (a.k == 2) = false := beq_eq_false_iff_ne.2 hk2
      have hn1 : ¬ (namF a.n = false ∨ (a.k = 2 ∧ namF a.t = false)) := by rintro (e | e); rw [h1] at e; cases e; exact hk2 e.1
      by_cases hk1 : a.k = 0 ∨ a.k = 1
      · have hpf : Hid (putsF a = true) := hid (decide_eq_true hk1)
        have hzi := hzz hk1
        have hr0 : d.room < (szA a (nowF d) : Int) → Hid (refF d a = 4) := fun h => hid (by unfold refF; rw [if_neg hn1, if_pos hk1, if_pos h])
        have hr1 : ¬ d.room < (szA a (nowF d) : Int) → Hid (refF d a = 0) := fun h => hid (by unfold refF; rw [if_neg hn1, if_pos hk1, if_neg h])
        have Hr0 := hid hr0
        have Hr1 := hid hr1
        clear h1 hk2 hk1 hzz hn1 q2 hr0 hr1
        go_wp2_with (first | (refine wp_ld 76 (.tmp 3) rfl rfl rfl b0.whole Try.underlying76 rfl sizeTh ?_) | fail)
        refine (puts_any a (.slice Aa a.b.length ca) _).mono ?_
        rintro e w2 ⟨rfl, hB2⟩
        rw [hpf.out]
        have hb2 := hb.below hB2
        have b2 := b0.below hB2
        have hM2 := hM.below hB2
        replace hB0 := hB0.trans (hB2.mono hB0.size)
        obtain ⟨T, hT⟩ : ∃ T : Int, T = (tot (nowF d) : Int) := ⟨_, rfl⟩
        obtain ⟨J, hJ⟩ : ∃ J : Int, J = losF (nowF d) a := ⟨_, rfl⟩
        have hw1 : IntKind.i64.wrap ((tot (nowF d) : Int) - losF (nowF d) a) = (tot (nowF d) : Int) - losF (nowF d) a := IntWalk.i64_in _ (by omega)
        have hw2 : IntKind.i64.wrap ((tot (nowF d) : Int) - losF (nowF d) a + (a.b.length : Int)) = (tot (nowF d) : Int) - losF (nowF d) a + (a.b.length : Int) := IntWalk.i64_in _ (by omega)
        clear hT hJ b0 hb hM q0 e2 hpf hB2
        go_upto_region 4 with (fail)
        have HF : Hid (∀ W, Ch nob w2 W → W.cell? ⟨x, 2, none⟩ = some (.map (some f))) := hid fun W hc => (hb2.ch hc (fun h => h)).cellAt 2 _ rfl
        have HR : Hid (∀ W, Ch nob w2 W → W.cell? ⟨x, 0, none⟩ = some (.int .i64 d.room)) := hid fun W hc => (hb2.ch hc (fun h => h)).cellAt 0 _ rfl
        have HN : Hid (∀ W, Ch nob w2 W → W.cell? ⟨g, 1, none⟩ = some (.string a.n)) := hid fun W hc => (b2.ch hc (fun h => h)).cellAt 1 _ rfl
        have HC : Hid (∀ W, Ch nob w2 W → W.cell? ⟨g, 3, none⟩ = some (.slice Aa a.b.length ca)) := hid fun W hc => (b2.ch hc (fun h => h)).cellAt 3 _ rfl
        have HA : Hid (∀ W, Ch nob w2 W → W.rangeAt g 0 (apL a (.slice Aa a.b.length ca))) := hid fun W hc => (b2.ch hc (fun h => h)).whole
        have HM : Hid (∀ W, Ch nob w2 W → FMs Try.prog 9 W F f (nowF d)) := hid fun W hc => hM2.keep (hc.block f hM2.lt (fun h => h)) (fun y hy hF => ⟨hF, hc.block y hy (fun h => h)⟩)
        clear hb2 b2 hM2
        refine wp_region_noPanic ?_
        refine wp_region_held_drew (S := Ch nob w2) (by kernel_rfl) ((Ch.refl _ _).drew) (fun hHeld => ?_)
        refine wpAnyH_take (i := 0) (oi := ⟨some 22, _, _, _, _, none⟩) (v := ?_) rfl (by kernel_rfl) (by kernel_rfl) (by kernel_rfl) (fun _ _ _ h => h) (Or.inl ⟨by rfl, ?_⟩) (by assumption) ?_
        rotate_left
        · intro w hSw; go_simp; try with_reducible rfl
        try simp only [Act.put, List.setIfInBounds_toArray, List.set_cons_zero, List.set_cons_succ]
        refine wpAnyH_take (i := 1) (oi := ⟨some 23, _, _, _, _, none⟩) (v := ?_) rfl (by kernel_rfl) (by kernel_rfl) (by kernel_rfl) (fun _ _ _ h => h) (Or.inl ⟨by rfl, ?_⟩) (by assumption) ?_
        rotate_left
        · intro w hSw; go_simp; try with_reducible rfl
        try simp only [Act.put, List.setIfInBounds_toArray, List.set_cons_zero, List.set_cons_succ]
        refine wpAnyH_take (i := 2) (oi := ⟨some 24, _, _, _, _, none⟩) (v := ?_) rfl (by kernel_rfl) (by kernel_rfl) (by kernel_rfl) (fun _ _ _ h => h) (Or.inl ⟨by rfl, ?_⟩) (by assumption) ?_
        rotate_left
        · intro w hSw; go_simp; try with_reducible rfl
        try simp only [Act.put, List.setIfInBounds_toArray, List.set_cons_zero, List.set_cons_succ]
        refine wpAnyH_take (i := 3) (oi := ⟨some 25, _, _, _, _, none⟩) (v := ?_) rfl (by kernel_rfl) (by kernel_rfl) (by kernel_rfl) (fun _ _ _ h => h) (Or.inl ⟨by rfl, ?_⟩) (by assumption) ?_
        rotate_left
        · intro w hSw; have hcw := HF.out w hSw; go_simp; try with_reducible rfl
        try simp only [Act.put, List.setIfInBounds_toArray, List.set_cons_zero, List.set_cons_succ]
        refine wpAnyH_take (i := 5) (oi := ⟨some 27, _, _, _, _, none⟩) (v := ?_) rfl (by kernel_rfl) (by kernel_rfl) (by kernel_rfl) (fun _ _ _ h => h) (Or.inl ⟨by rfl, ?_⟩) (by assumption) ?_
        rotate_left
        · intro w hSw; go_simp; try with_reducible rfl
        try simp only [Act.put, List.setIfInBounds_toArray, List.set_cons_zero, List.set_cons_succ]
        refine wpAnyH_take (i := 6) (oi := ⟨some 28, _, _, _, _, none⟩) (v := ?_) rfl (by kernel_rfl) (by kernel_rfl) (by kernel_rfl) (fun _ _ _ h => h) (Or.inl ⟨by rfl, ?_⟩) (by assumption) ?_
        rotate_left
        · intro w hSw; go_simp; try with_reducible rfl
        try simp only [Act.put, List.setIfInBounds_toArray, List.set_cons_zero, List.set_cons_succ]
        refine wpAnyH_take (i := 7) (oi := ⟨some 29, _, _, _, _, none⟩) (v := ?_) rfl (by kernel_rfl) (by kernel_rfl) (by kernel_rfl) (fun _ _ _ h => h) (Or.inl ⟨by rfl, ?_⟩) (by assumption) ?_
        rotate_left
        · intro w hSw; go_simp; try with_reducible rfl
        try simp only [Act.put, List.setIfInBounds_toArray, List.set_cons_zero, List.set_cons_succ]
        refine wpAnyH_take (i := 8) (oi := ⟨some 30, _, _, _, _, none⟩) (v := ?_) rfl (by kernel_rfl) (by kernel_rfl) (by kernel_rfl) (fun _ _ _ h => h) (Or.inl ⟨by rfl, ?_⟩) (by assumption) ?_
        rotate_left
        · intro w hSw; have hcw := HF.out w hSw; go_simp; try with_reducible rfl
        try simp only [Act.put, List.setIfInBounds_toArray, List.set_cons_zero, List.set_cons_succ]
        refine wpAnyH_take (i := 9) (oi := ⟨some 31, .load 76 (.tmp 3), _, _, _, none⟩) (v := _) rfl (by kernel_rfl) (by kernel_rfl) (by kernel_rfl) (fun _ _ _ h => h) (yieldsIf_load_mid (by rfl) 76 (.tmp 3) (by rfl) _ (0) (by rfl) _ _ (fun _ hs => HA.out _ hs) Try.underlying76 rfl (sizeTh)) (by assumption) ?_
        try simp only [Act.put, List.setIfInBounds_toArray, List.set_cons_zero, List.set_cons_succ]
        refine wpAnyH_take (i := 12) (oi := ⟨some 34, _, _, _, _, none⟩) (v := ?_) rfl (by kernel_rfl) (by kernel_rfl) (by kernel_rfl) (fun _ _ _ h => h) (Or.inl ⟨by rfl, ?_⟩) (by assumption) ?_
        rotate_left
        · intro w hSw; go_simp; try with_reducible rfl
        try simp only [Act.put, List.setIfInBounds_toArray, List.set_cons_zero, List.set_cons_succ]
        refine wpAnyH_take (i := 13) (oi := ⟨some 35, _, _, _, _, none⟩) (v := ?_) rfl (by kernel_rfl) (by kernel_rfl) (by kernel_rfl) (fun _ _ _ h => h) (Or.inl ⟨by rfl, ?_⟩) (by assumption) ?_
        rotate_left
        · intro w hSw; have hcw := HC.out w hSw; go_simp; try with_reducible rfl
        try simp only [Act.put, List.setIfInBounds_toArray, List.set_cons_zero, List.set_cons_succ]
        refine wpAnyH_take (i := 14) (oi := ⟨some 36, _, _, _, _, none⟩) (v := ?_) rfl (by kernel_rfl) (by kernel_rfl) (by kernel_rfl) (fun _ _ _ h => h) (Or.inl ⟨by rfl, ?_⟩) (by assumption) ?_
        rotate_left
        · intro w hSw; go_simp; try with_reducible rfl
        try simp only [Act.put, List.setIfInBounds_toArray, List.set_cons_zero, List.set_cons_succ]
        refine wpAnyH_take (i := 16) (oi := ⟨some 38, _, _, _, _, none⟩) (v := ?_) rfl (by kernel_rfl) (by kernel_rfl) (by kernel_rfl) (fun _ _ _ h => h) (Or.inl ⟨by rfl, ?_⟩) (by assumption) ?_
        rotate_left
        · intro w hSw; go_simp; try with_reducible rfl
        try simp only [Act.put, List.setIfInBounds_toArray, List.set_cons_zero, List.set_cons_succ]
        refine wpAnyH_take (i := 17) (oi := ⟨some 39, _, _, _, _, none⟩) (v := ?_) rfl (by kernel_rfl) (by kernel_rfl) (by kernel_rfl) (fun _ _ _ h => h) (Or.inl ⟨by rfl, ?_⟩) (by assumption) ?_
        rotate_left
        · intro w hSw; go_simp; try with_reducible rfl
        try simp only [Act.put, List.setIfInBounds_toArray, List.set_cons_zero, List.set_cons_succ]
        refine wpAnyH_take (i := 18) (oi := ⟨some 40, _, _, _, _, none⟩) (v := ?_) rfl (by kernel_rfl) (by kernel_rfl) (by kernel_rfl) (fun _ _ _ h => h) (Or.inl ⟨by rfl, ?_⟩) (by assumption) ?_
        rotate_left
        · intro w hSw; go_simp; try with_reducible rfl
        try simp only [Act.put, List.setIfInBounds_toArray, List.set_cons_zero, List.set_cons_succ]
        refine wpAnyH_take (i := 19) (oi := ⟨some 41, _, _, _, _, none⟩) (v := ?_) rfl (by kernel_rfl) (by kernel_rfl) (by kernel_rfl) (fun _ _ _ h => h) (Or.inl ⟨by rfl, ?_⟩) (by assumption) ?_
        rotate_left
        · intro w hSw; have hcw := HR.out w hSw; go_simp; try with_reducible rfl
        try simp only [Act.put, List.setIfInBounds_toArray, List.set_cons_zero, List.set_cons_succ]
        refine wpAnyH_ready (rs := [4]) (by kernel_rfl) (by simp) ?_
        refine AllReadyH.cons (o := ⟨some 26, _, _, _, _, none⟩) rfl (fun K hK => ?_) AllReadyH.nil
        go_simp
        refine (size_e f (nowF d) F _ (HM.out _ hHeld) htt).mono ?_
        rintro e w4 ⟨rfl, hB4⟩
        refine hK.out _ _ (hHeld.belowG hB4) (fun hHeld => ?_)
        clear hK K
        try simp only [Act.put, List.setIfInBounds_toArray, List.set_cons_zero, List.set_cons_succ]
        refine wpAnyH_ready (rs := [10]) (by kernel_rfl) (by simp) ?_
        refine AllReadyH.cons (o := ⟨some 32, _, _, _, _, none⟩) rfl (fun K hK => ?_) AllReadyH.nil
        go_simp
        refine (loses_e f (nowF d) F a Aa a.b.length ca _ (HM.out _ hHeld) hn).mono ?_
        rintro e w10 ⟨rfl, hB10⟩
        refine hK.out _ _ (hHeld.belowG hB10) (fun hHeld => ?_)
        clear hK K
        try simp only [Act.put, List.setIfInBounds_toArray, List.set_cons_zero, List.set_cons_succ]
        refine wpAnyH_take (i := 11) (oi := ⟨some 33, _, _, _, _, none⟩) (v := ?_) rfl (by kernel_rfl) (by kernel_rfl) (by kernel_rfl) (fun _ _ _ h => h) (Or.inl ⟨by rfl, ?_⟩) (by assumption) ?_
        rotate_left
        · intro w hSw; go_simp; try with_reducible rfl
        try simp only [Act.put, List.setIfInBounds_toArray, List.set_cons_zero, List.set_cons_succ]
        refine wpAnyH_take (i := 15) (oi := ⟨some 37, _, _, _, _, none⟩) (v := ?_) rfl (by kernel_rfl) (by kernel_rfl) (by kernel_rfl) (fun _ _ _ h => h) (Or.inl ⟨by rfl, ?_⟩) (by assumption) ?_
        rotate_left
        · intro w hSw; go_simp; try with_reducible rfl
        try simp only [Act.put, List.setIfInBounds_toArray, List.set_cons_zero, List.set_cons_succ]
        refine wpAnyH_take (i := 20) (oi := ⟨some 42, _, _, _, _, none⟩) (v := ?_) rfl (by kernel_rfl) (by kernel_rfl) (by kernel_rfl) (fun _ _ _ h => h) (Or.inl ⟨by rfl, ?_⟩) (by assumption) ?_
        rotate_left
        · intro w hSw; go_simp; try with_reducible rfl
        try simp only [Act.put, List.setIfInBounds_toArray, List.set_cons_zero, List.set_cons_succ]
        refine wpAnyH_done (by kernel_rfl) ?_ _
        refine NoPanic.normal ?_
        have hC5 : Ch nob w2 _ := hHeld
        have hBf := Ch.below_of hB0 hC5 (fun _ h => h.elim) hB0.size
        clear HF HR HN HC HA HM hHeld hw1 hw2
        by_cases hg : d.room < (szA a (nowF d) : Int)
        · have hg2 : d.room < (tot (nowF d) : Int) - losF (nowF d) a + (a.b.length : Int) := by omega
          have hr := Hr0.out (by omega)
          clear Hr0 Hr1 hg hzi
          go_wp2
          go_ret
          exact ⟨by rw [hr.out]; rfl, hBf⟩
        · have hg2 : ¬ d.room < (tot (nowF d) : Int) - losF (nowF d) a + (a.b.length : Int) := by omega
          have hr := Hr1.out (by omega)
          clear Hr0 Hr1 hg hzi
          go_wp2
          go_ret
          exact ⟨by rw [hr.out]; rfl, hBf⟩
      · have hr : Hid (refF d a = if (findF (nowF d) a.n).isSome = false then 13 else 0) := hid (by unfold refF; rw [if_neg hn1, if_neg hk1])
        have HP : Hid (putsF a = false) := hid (decide_eq_false hk1)
        clear h1 hk2 hk1 hzz hn1 q2
        go_wp2_with (first | (refine wp_ld 76 (.tmp 3) rfl rfl rfl b0.whole Try.underlying76 rfl sizeTh ?_) | fail)
        refine (puts_any a (.slice Aa a.b.length ca) _).mono ?_
        rintro e w2 ⟨rfl, hB2⟩
        rw [HP.out]
        have hb2 := hb.below hB2
        have b2 := b0.below hB2
        have hM2 := hM.below hB2
        replace hB0 := hB0.trans (hB2.mono hB0.size)
        clear b0 hb hM e2 HP hB2
        go_upto_region 7 with (fail)
        have HF : Hid (∀ W, Ch nob w2 W → W.cell? ⟨x, 2, none⟩ = some (.map (some f))) := hid fun W hc => (hb2.ch hc (fun h => h)).cellAt 2 _ rfl
        have HR : Hid (∀ W, Ch nob w2 W → W.cell? ⟨x, 0, none⟩ = some (.int .i64 d.room)) := hid fun W hc => (hb2.ch hc (fun h => h)).cellAt 0 _ rfl
        have HN : Hid (∀ W, Ch nob w2 W → W.cell? ⟨g, 1, none⟩ = some (.string a.n)) := hid fun W hc => (b2.ch hc (fun h => h)).cellAt 1 _ rfl
        have HC : Hid (∀ W, Ch nob w2 W → W.cell? ⟨g, 3, none⟩ = some (.slice Aa a.b.length ca)) := hid fun W hc => (b2.ch hc (fun h => h)).cellAt 3 _ rfl
        have HA : Hid (∀ W, Ch nob w2 W → W.rangeAt g 0 (apL a (.slice Aa a.b.length ca))) := hid fun W hc => (b2.ch hc (fun h => h)).whole
        have HM : Hid (∀ W, Ch nob w2 W → FMs Try.prog 9 W F f (nowF d)) := hid fun W hc => hM2.keep (hc.block f hM2.lt (fun h => h)) (fun y hy hF => ⟨hF, hc.block y hy (fun h => h)⟩)
        clear hb2 b2 hM2
        refine wp_region_noPanic ?_
        refine wp_region_held_drew (S := Ch nob w2) (by kernel_rfl) ((Ch.refl _ _).drew) (fun hHeld => ?_)
        refine wpAnyH_take (i := 0) (oi := ⟨some 43, _, _, _, _, none⟩) (v := ?_) rfl (by kernel_rfl) (by kernel_rfl) (by kernel_rfl) (fun _ _ _ h => h) (Or.inl ⟨by rfl, ?_⟩) (by assumption) ?_
        rotate_left
        · intro w hSw; go_simp; try with_reducible rfl
        try simp only [Act.put, List.setIfInBounds_toArray, List.set_cons_zero, List.set_cons_succ]
        refine wpAnyH_take (i := 1) (oi := ⟨some 44, _, _, _, _, none⟩) (v := ?_) rfl (by kernel_rfl) (by kernel_rfl) (by kernel_rfl) (fun _ _ _ h => h) (Or.inl ⟨by rfl, ?_⟩) (by assumption) ?_
        rotate_left
        · intro w hSw; go_simp; try with_reducible rfl
        try simp only [Act.put, List.setIfInBounds_toArray, List.set_cons_zero, List.set_cons_succ]
        refine wpAnyH_take (i := 2) (oi := ⟨some 45, _, _, _, _, none⟩) (v := ?_) rfl (by kernel_rfl) (by kernel_rfl) (by kernel_rfl) (fun _ _ _ h => h) (Or.inl ⟨by rfl, ?_⟩) (by assumption) ?_
        rotate_left
        · intro w hSw; go_simp; try with_reducible rfl
        try simp only [Act.put, List.setIfInBounds_toArray, List.set_cons_zero, List.set_cons_succ]
        refine wpAnyH_take (i := 3) (oi := ⟨some 46, _, _, _, _, none⟩) (v := ?_) rfl (by kernel_rfl) (by kernel_rfl) (by kernel_rfl) (fun _ _ _ h => h) (Or.inl ⟨by rfl, ?_⟩) (by assumption) ?_
        rotate_left
        · intro w hSw; have hcw := HF.out w hSw; go_simp; try with_reducible rfl
        try simp only [Act.put, List.setIfInBounds_toArray, List.set_cons_zero, List.set_cons_succ]
        refine wpAnyH_take (i := 4) (oi := ⟨some 47, _, _, _, _, none⟩) (v := ?_) rfl (by kernel_rfl) (by kernel_rfl) (by kernel_rfl) (fun _ _ _ h => h) (Or.inl ⟨by rfl, ?_⟩) (by assumption) ?_
        rotate_left
        · intro w hSw; go_simp; try with_reducible rfl
        try simp only [Act.put, List.setIfInBounds_toArray, List.set_cons_zero, List.set_cons_succ]
        refine wpAnyH_take (i := 5) (oi := ⟨some 48, _, _, _, _, none⟩) (v := ?_) rfl (by kernel_rfl) (by kernel_rfl) (by kernel_rfl) (fun _ _ _ h => h) (Or.inl ⟨by rfl, ?_⟩) (by assumption) ?_
        rotate_left
        · intro w hSw; have hcw := HN.out w hSw; go_simp; try with_reducible rfl
        try simp only [Act.put, List.setIfInBounds_toArray, List.set_cons_zero, List.set_cons_succ]
        refine wpAnyH_ready (rs := [6]) (by kernel_rfl) (by simp) ?_
        refine AllReadyH.cons (o := ⟨some 49, _, _, _, _, none⟩) rfl (fun K hK => ?_) AllReadyH.nil
        go_simp
        refine (has_e f (nowF d) F a.n _ (HM.out _ hHeld) hn).mono ?_
        rintro e w10 ⟨rfl, rfl⟩
        refine hK.out _ _ (hHeld) (fun hHeld => ?_)
        clear hK K
        try simp only [Act.put, List.setIfInBounds_toArray, List.set_cons_zero, List.set_cons_succ]
        refine wpAnyH_take (i := 7) (oi := ⟨some 50, _, _, _, _, none⟩) (v := ?_) rfl (by kernel_rfl) (by kernel_rfl) (by kernel_rfl) (fun _ _ _ h => h) (Or.inl ⟨by rfl, ?_⟩) (by assumption) ?_
        rotate_left
        · intro w hSw; go_simp; try with_reducible rfl
        try simp only [Act.put, List.setIfInBounds_toArray, List.set_cons_zero, List.set_cons_succ]
        refine wpAnyH_done (by kernel_rfl) ?_ _
        refine NoPanic.normal ?_
        have hC5 : Ch nob w2 _ := hHeld
        have hBf := Ch.below_of hB0 hC5 (fun _ h => h.elim) hB0.size
        clear HF HR HN HC HA HM hHeld
        cases hf : findF (nowF d) a.n with
        | none =>
          have hi : (findF (nowF d) a.n).isNone = true := by rw [hf]; rfl
          have hr2 : Hid (refF d a = 13) := hid (by rw [hr.out, hf]; rfl)
          clear hr hf
          go_wp2
          go_ret
          exact ⟨by rw [hr2.out]; rfl, hBf⟩
        | some bb =>
          have hi : (findF (nowF d) a.n).isNone = false := by rw [hf]; rfl
          have hr2 : Hid (refF d a = 0) := hid (by rw [hr.out, hf, if_neg (by simp)])
          clear hr hf
          go_wp2
          go_ret
          exact ⟨by rw [hr2.out]; rfl, hBf⟩
end Go.Proofs.Ytjaiffefgjopmaa
