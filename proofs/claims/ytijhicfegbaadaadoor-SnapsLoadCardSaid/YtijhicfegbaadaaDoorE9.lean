/- E9: several texts in one (E3 E4 E5 E6 E7 E8 E9). -/
import Derived.Test.YtijhicfegbaadaaDoorE2
import Derived.Test.YtijhicfegbaadaaDoorDU
import Derived.Test.YtijhicfegbaadaaDoorSort
import Derived.Test.YtijhicfegbaadaaDoorE1
/- E3: layer 10: names of files (the library's sort), files copied with rows of their own. -/
namespace Go.V
open Go.RowKit
theorem enc_n (f : Fl) : Proofs.encStr (nmL f) = .string f.n := by
  unfold nmL
  show Value.string ⟨f.n.data.toList.toArray⟩ = _
  rw [Array.toArray_toList]
theorem strs_own {w : World} {base : Nat} {e : TypeId} {v : Value} {l : List ByteArray} (ho : w.ownsRow base e 1 v l.length (l.map Value.string)) : Rd w (fun b => base ≤ b) v (strs l) := by
  unfold strs Rd
  rcases ho.2 with ⟨rfl, h0⟩ | ⟨g, cap, cur, rfl, hg, hh, h1, h2, h3, h4⟩
  · have : l = [] := List.eq_nil_of_length_eq_zero h0
    subst this
    exact ⟨none, 0, rfl, Nat.le_refl _, by simp [maxLen], fun _ => rfl, fun h => absurd rfl h⟩
  · refine ⟨_, cap, rfl, h1, h2, fun h => by rw [List.eq_nil_of_length_eq_zero h]; rfl, fun _ => ⟨g, 0, rfl, hg, wdC_in _ (l.map Value.string) 0 (by simp) (fun j u hu => ?_) (fun j u d hu hd => ?_)⟩⟩
    · have := ho.cells (g := g) rfl j u hu
      rwa [add_mk] at this
    · rw [List.getElem?_map] at hu hd
      cases hq : l[j]? with
      | none => rw [hq] at hu; cases hu
      | some s =>
        rw [hq] at hu hd
        simp at hu hd
        subst hu hd
        unfold Rd
        rfl
theorem strs_shape {w : World} {F : Nat → Prop} {v : Value} {l : List ByteArray} (h : Rd w F v (strs l)) : ∃ A c, v = .slice A l.length c := by
  unfold strs Rd at h
  obtain ⟨A, c, hv, _⟩ := h
  exact ⟨A, c, hv⟩
theorem mm_hint {P : Program} {t k e : TypeId} (ht : P.underlying t = some (.map k e)) (n : Int) (W : World) : (Instr.makeMap t (some (.int .i64 n))).run P W = .ok (.map (some W.heap.size)) (W.alloc (.map #[] 0)) := by
  simp [Instr.makeMap, run_underlying ht]
  rfl
theorem strs_nil {w : World} {F : Nat → Prop} : Rd w F (.slice none 0 0) (strs []) := by
  unfold strs Rd
  exact ⟨none, 0, rfl, Nat.le_refl _, by simp [maxLen], fun _ => rfl, fun h => absurd rfl h⟩
end Go.V
namespace Go.Proofs.YtijhicfegbaadaaDoor
open Go.RowKit Go.V Go.Maps
set_option maxRecDepth 100000 in
set_option maxHeartbeats 2000000 in
theorem copied_e (b : Nat) (L : List Fl) (M : Nat → Prop) (w : World) (h : FX w M b L) (hL : L.length < maxLen) (ht : tot L ≤ 1000000000) :
    Calls Tryd.prog 38 #[.map (some b)] w fun e w' => ∃ g M', e = .returned (.map (some g)) ∧ w.heap.size ≤ g ∧ FX w' M' g L ∧ (∀ y, M' y → g < y) ∧ Below w.heap.size w w' := by
  obtain ⟨hO, hMb, hMw⟩ := h
  obtain ⟨F1, hF1⟩ : ∃ F1 : Nat → Prop, F1 = fun x => x < w.heap.size := ⟨_, rfl⟩
  have h := hO.fms.weak (F' := F1) (fun x hx _ => by rw [hF1]; exact hx)
  have hFr : ∀ x, w.heap.size ≤ x → ¬ F1 x := fun x hx => by rw [hF1]; intro (h : x < w.heap.size); omega
  have hbl := h.lt
  have hmm := fun (n : Int) (W : World) => mm_hint (P := Tryd.prog) (t := 54) Tryd.underlying54 n W
  have hal : Below w.heap.size w (w.alloc (.map #[] 0)) := (Below.refl _ _).alloc (Nat.le_refl _) _
  have hG := FO.made (P := Tryd.prog) (k := 9) (e := 5) (w := w) (M := fun _ => False) (ok := anyN)
  have h0 := h.below hal
  have huq := h.uq (string_keyed Tryd.underlying9)
  have hfl := h
  clear hF1 hO hMb hMw
  go_enter Tryd.func38, Tryd.ntmps38
  go_wp2_with (first | (at_len; refine wp_lenF 54 22 (.tmp 6) rfl rfl Tryd.underlying54 rfl hfl ?_) | (at_range; refine wp_rangeF 54 22 (.tmp 9) rfl rfl Tryd.underlying9 Tryd.underlying54 rfl h0 ?_; intro w1 hr1 hg1 hs1) | go_in)
  go_frame
  obtain ⟨w0, hw0⟩ : ∃ x, x = w.alloc (.map #[] 0) := ⟨_, rfl⟩
  have hw0s : w0.heap.size = w.heap.size + 1 := by rw [hw0]; simp
  rw [← hw0] at hG hal hr1 hg1 hs1 ⊢
  clear hw0 hmm h0
  have hB1 : Below w.heap.size w w1 := hal.grown hg1 (by omega) (fun k hk => by cases hk)
  have hG1 := hG.keep (hg1.block _ hG.lt (by simp)) (fun x hx hF => hF.elim)
  obtain ⟨g, hg⟩ : ∃ g, g = w.heap.size := ⟨_, rfl⟩
  obtain ⟨r, hr⟩ : ∃ r, r = w0.heap.size := ⟨_, rfl⟩
  rw [← hr] at hr1 ⊢
  rw [← hg] at hG1 ⊢
  have hgr : g < r := by omega
  have hgw : w.heap.size ≤ g := by omega
  have hbg : b < g := by omega
  have hFg : ¬ F1 g := hFr g hgw
  have hFrr : ¬ F1 r := hFr r (by omega)
  have hrw : r < w1.heap.size := by omega
  clear hg hr hs1 hg1 hG hal hw0s hFr hbl
  go_loopw [5] (fun _ wr => ∃ (dn rs : List Fl) (M' : Nat → Prop), L.Perm (dn ++ rs) ∧ FRs Tryd.prog 9 wr F1 b r dn rs ∧ FO Tryd.prog 9 5 wr M' anyN g dn ∧ (∀ y, M' y → r < y ∧ y < wr.heap.size) ∧ r < wr.heap.size ∧ Below w.heap.size w wr) (fun _ wr => wr.rangeLeft b r)
  case atStart => exact ⟨[], L, _, .refl _, hr1, hG1, fun _ h => h.elim, hrw, hB1⟩
  case round =>
    obtain ⟨dn, rs, M', hp, hR, hM, hM', hrwr, hB⟩ := hrel
    have hB2 := hB.size
    go_wp2_with (first | (at_next; refine wp_nextF (.tmp 10) rfl rfl Tryd.underlying9 rfl hR hFrr ?_ ?_) | go_in)
    · intro hrs
      subst hrs
      rw [List.append_nil] at hp
      go_wp2
      go_ret
      exact ⟨g, M', rfl, hgw, ⟨hM.perm hp.symm, fun e => by have := (hM' g e).1; omega, fun y hy => (hM' y hy).2⟩, fun y hy => by have := (hM' y hy).1; omega, hB⟩
    · intro f rs' A c w2 hpp hR2 hv hlt hg2 hs2 hen
      have hp2 : L.Perm (dn ++ [f] ++ rs') := hp.trans (by rw [List.append_assoc]; exact hpp.append_left dn)
      have hM2 := hM.keep (hg2.block g hM.lt (by intro e; injection e with e; omega)) (fun y hy hF => hg2.block y hy (by intro e; injection e with e; have := (hM' y hF).1; omega))
      have hfn : f.n.size ≤ maxLen := hR2.owns.name f (by simp)
      have hfb : f.b.length ≤ 1000000000 := by have := tot_mem (hp2.mem_iff.2 (by simp : f ∈ dn ++ [f] ++ rs')); omega
      have hdl : dn.length < maxLen := by
        have := hp2.length_eq
        simp at this
        omega
      have hwo : woF dn f.n = dn := wo_none (fun x hx e => by
        have h1 : ((dn ++ [f] ++ rs').map Fl.n).Nodup := (hp2.map _).nodup_iff.1 huq
        rw [List.append_assoc, List.map_append, List.nodup_append] at h1
        exact h1.2.2 x.n (List.mem_map_of_mem hx) f.n (by simp) e)
      have hB3 := hB.grown hg2 hB2 (fun k hk => by injection hk with hk; omega)
      have Hp2 := hid hp2
      have Hwo := hid hwo
      have hRb := hR2.owns.lt
      have hRr : r < w2.heap.size := by omega
      have hB3s := hB3.size
      have hM2' : ∀ y, M' y → r < y ∧ y < w2.heap.size := fun y hy => by have := hM' y hy; omega
      clear hs2 hpp hp hp2 hB hR hg2 hM hwo hM' hrwr
      go_wp2_with (fail)
      refine (bclone_any f.b F1 _ _ hv hfb).mono ?_
      rintro e w3 ⟨v5, rfl, ho5, hB5⟩
      have hR3 := hR2.keep (F' := F1) (hB5.block b hRb) (hB5.block r hRr) (fun y hy hF => ⟨hF, hB5.block y hy⟩)
      have hM3 := (hM2.below hB5).weak (M' := M') (ok' := notN f.n) (fun y _ h => h) (fun _ _ => trivial)
      have hv5 : ∀ y, v5.ownBlock = some y → ¬ M' y ∧ y ≠ g := fun y hy => by
        have := (ho5.lt y hy).1
        exact ⟨fun e => by have := (hM2' y e).2; omega, by omega⟩
      have hx5 : ∀ y, v5.ownBlock = some y → r < y ∧ y < w3.heap.size := fun y hy => by have := ho5.lt y hy; omega
      have hMg : ¬ M' g := fun e => by have := (hM2' g e).1; omega
      have hz5 := hB5.size
      have hB4 := hB3.trans (hB5.mono hB3s)
      have hlt3 : w3.rangeLeft b r < wr.rangeLeft b r := by rw [hR3.2]; exact hlt
      obtain ⟨A5, c5, rfl⟩ := own_shape8 ho5
      replace ho5 := own_weak (base' := 0) ho5 (Nat.zero_le _)
      clear hR2 hM2 hB5 hlt hv hB3 hen
      go_wp2_with (first | (at_mapUpdate; refine wp_putO 54 22 (.tmp 16) (.tmp 17) (.tmp 19) rfl rfl Tryd.underlying9 Tryd.underlying54 rfl hM3 hdl rfl hfn rfl ho5 hv5 hMg ?_; intro w4 hM4 hg4 hs4) | go_in)
      have hB6 := hB4.grown hg4 hB4.size (fun k hk => by injection hk with hk; omega)
      have hR4 := hR3.1.keep (F' := F1) (hg4.block b (by omega) (by intro e; injection e with e; omega)) (hg4.block r (by omega) (by intro e; injection e with e; omega)) (fun x hx hF => ⟨hF, hg4.block x hx (by intro e; injection e with e; subst e; exact hFg hF)⟩)
      have hM5 : FO Tryd.prog 9 5 w4 (fun y => M' y ∨ (Value.slice A5 f.b.length c5).ownBlock = some y) anyN g (dn ++ [f]) := (by rw [Hwo.out] at hM4; exact hM4.perm (List.perm_append_comm (l₁ := [f])))
      have hM6 : ∀ y, (M' y ∨ (Value.slice A5 f.b.length c5).ownBlock = some y) → r < y ∧ y < w4.heap.size := by
        rintro y (e | e)
        · have := hM2' y e; omega
        · have := hx5 y e; omega
      have hr4 : r < w4.heap.size := by omega
      have hlt4 : w4.rangeLeft b r < wr.rangeLeft b r := by rw [hR4.2]; exact hlt3
      have HR4 := hid hR4.1
      have HM6 := hid hM6
      clear hs4 hM4 hM3 hR3 hg4 hB4 hlt3 hR4 hM6 hx5 hv5
      go_frame
      go_wp2
      go_roundw
      case rel => exact ⟨dn ++ [f], rs', _, Hp2.out, HR4.out, hM5, HM6.out, hr4, hB6⟩
      case measure => exact hlt4
end Go.Proofs.YtijhicfegbaadaaDoor
/- E4: layer 10: what holds of the landed disk; blows, refusal. -/
namespace Go.V
open Go.RowKit
theorem sz_int (a : Ac) (h : a.k = 0 ∨ a.k = 1) (l : List Fl) (hu : (l.map Fl.n).Nodup) : (szA a l : Int) = (tot l : Int) - losF l a + (a.b.length : Int) := by
  unfold losF
  by_cases h1 : a.k = 1
  · rw [if_pos h1]
    have h0 : a.k ≠ 0 := by omega
    have h2 : szA a l = a.b.length + tot (woF l a.n) := by unfold szA; rw [wo_sum a h0 l]
    have h3 := wo_tot_eq l a.n hu
    omega
  · rw [if_neg h1, sz_zero a (by omega)]
    omega
theorem los_bd (a : Ac) (l : List Fl) : 0 ≤ losF l a ∧ losF l a ≤ (tot l : Int) := by
  have := find_tot l a.n
  unfold losF
  split <;> omega
/-- why a thing can't be done to a disk that runs -/
def refF (d : Dk) (a : Ac) : Int :=
  if namF a.n = false ∨ (a.k = 2 ∧ namF a.t = false) then 15 else if a.k = 0 ∨ a.k = 1 then (if d.room < (szA a (nowF d) : Int) then 4 else 0) else if (findF (nowF d) a.n).isSome = false then 13 else 0
theorem do_ref {d : Dk} {a : Ac} (hk : 0 ≤ a.k ∧ a.k ≤ 3) (hd : d.down = false) : doF d a = if refF d a = 0 then pushF d a else (d, refF d a) := by
  by_cases h01 : a.k = 0 ∨ a.k = 1
  · rw [do_put h01, hd, if_neg (by simp)]
    by_cases h2 : namF a.n = false
    · have e : refF d a = 15 := by unfold refF; rw [if_pos (Or.inl h2)]
      rw [e, if_pos h2, if_neg (by omega)]
    · have hn : ¬ (namF a.n = false ∨ (a.k = 2 ∧ namF a.t = false)) := by rintro (h | h); exact h2 h; omega
      rw [if_neg h2]
      by_cases h3 : d.room < (szA a (nowF d) : Int)
      · have e : refF d a = 4 := by unfold refF; rw [if_neg hn, if_pos h01, if_pos h3]
        rw [e, if_pos h3, if_neg (by omega)]
      · have e : refF d a = 0 := by unfold refF; rw [if_neg hn, if_pos h01, if_neg h3]
        rw [e, if_neg h3, if_pos rfl]
  · rw [do_find (by omega), hd, if_neg (by simp)]
    by_cases h2 : namF a.n = false ∨ (a.k = 2 ∧ namF a.t = false)
    · have e : refF d a = 15 := by unfold refF; rw [if_pos h2]
      rw [e, if_pos h2, if_neg (by omega)]
    · rw [if_neg h2]
      cases hf : findF (nowF d) a.n with
      | none =>
        have e : refF d a = 13 := by unfold refF; rw [if_neg h2, if_neg h01, hf]; rfl
        rw [e]
        simp
      | some b =>
        have e : refF d a = 0 := by unfold refF; rw [if_neg h2, if_neg h01, hf, if_neg (by simp)]
        rw [e, if_neg (by simp), if_pos rfl]
/-- what holds of a thing that is kept -/
structure PdOk (a : Ac) : Prop where
  k : 0 ≤ a.k ∧ a.k ≤ 3
  sm : AcSm a
  n : a.n.size ≤ 24
  t : (nrmA a).t.size ≤ 24
theorem nrm_k (a : Ac) : (nrmA a).k = a.k := by unfold nrmA; split <;> (try split) <;> rfl
theorem nrm_n (a : Ac) : (nrmA a).n = a.n := by unfold nrmA; split <;> (try split) <;> rfl
theorem done_n24 {l : List Fl} {a : Ac} (hl : ∀ f ∈ l, f.n.size ≤ 24) (ha : PdOk a) : ∀ f ∈ doneF l a, f.n.size ≤ 24 := by
  intro f hf
  have hf := (doM_perm l a).mem_iff.2 hf
  have hw : ∀ (l : List Fl) n, (∀ f ∈ l, f.n.size ≤ 24) → ∀ f ∈ woF l n, f.n.size ≤ 24 := fun l n h f hf => h f (List.mem_filter.1 hf).1
  unfold doM at hf
  split at hf
  · rcases List.mem_cons.1 hf with rfl | hf
    · exact ha.n
    · exact hw _ _ hl f hf
  split at hf
  · rcases List.mem_cons.1 hf with rfl | hf
    · exact ha.n
    · exact hw _ _ hl f hf
  split at hf
  · rename_i h2
    split at hf
    · rcases List.mem_cons.1 hf with rfl | hf
      · have := ha.t
        unfold nrmA at this
        rw [if_neg (by omega), if_pos h2] at this
        exact this
      · exact hw _ _ (hw _ _ hl) f hf
    · exact hl f hf
  split at hf
  · exact hw _ _ hl f hf
  · exact hl f hf
theorem now_n24 : ∀ (p : List Ac) {l : List Fl}, (∀ f ∈ l, f.n.size ≤ 24) → (∀ a ∈ p, PdOk a) → ∀ f ∈ nowL l p, f.n.size ≤ 24
  | [], _, h, _ => h
  | a :: p, l, h, hp => now_n24 p (l := doneF l a) (done_n24 h (hp a (by simp))) (fun b hb => hp b (by simp [hb]))
theorem burn_down {d : Dk} (h : d.down = true → d.fuse = 0) : (burnF d).1.down = true → (burnF d).1.fuse = 0 := by
  intro h1
  have h2 : (d.down || (d.fuse == 0)) = true := h1
  have h3 : d.fuse = 0 := by
    rcases Bool.or_eq_true_iff.1 h2 with h4 | h4
    · exact h h4
    · exact beq_iff_eq.1 h4
  show (if 0 < d.fuse then d.fuse - 1 else d.fuse) = 0
  rw [h3]; rfl
end Go.V
namespace Go.Proofs.YtijhicfegbaadaaDoor
open Go.RowKit Go.V Go.Maps
/-- the landed disk in block x, its maps in s and f with rows in Ms and Mf, what is pending in the row of vp, its bytes in F; c tells the blocks apart -/
structure IE (w : World) (x s f : Nat) (Ms Mf F : Nat → Prop) (c : Nat → Nat) (d : Dk) (vp : Value) (xs : List Value) : Prop where
  hb : Blk w x 57 (dcZ d s f vp)
  ms : FO Tryd.prog 9 5 w Ms anyN s d.syn
  mf : FO Tryd.prog 9 5 w Mf anyN f (nowF d)
  ho : w.ownsRow 0 60 4 vp d.pend.length xs
  hx : WdX w F apD (d.pend.map nrmA) xs
  cx : c x = 0
  cs : c s = 1
  cf : c f = 2
  cm : ∀ y, Ms y → c y = 3 ∧ y < w.heap.size
  cn : ∀ y, Mf y → c y = 4 ∧ y < w.heap.size
  cv : ∀ y, vp.ownBlock = some y → c y = 5
  cF : ∀ y, F y → c y = 6 ∧ y < w.heap.size
  st : srt d.syn
  dn : d.down = true → d.fuse = 0
  nS : ∀ f ∈ d.syn, f.n.size ≤ 24
  pd : ∀ a ∈ d.pend, PdOk a
/-- what it may write -/
def mIE (x s f : Nat) (Ms Mf : Nat → Prop) (vp : Value) : Nat → Prop := fun y => y = x ∨ y = s ∨ y = f ∨ Ms y ∨ Mf y ∨ vp.ownBlock = some y
variable {w w' : World} {x s f : Nat} {Ms Mf F : Nat → Prop} {c : Nat → Nat} {d : Dk} {vp : Value} {xs : List Value}
theorem IE.keep (h : IE w x s f Ms Mf F c d vp xs) (hk : ∀ y, y < w.heap.size → mIE x s f Ms Mf vp y ∨ F y → w'.heap[y]? = w.heap[y]?) (hs : w.heap.size ≤ w'.heap.size) : IE w' x s f Ms Mf F c d vp xs where
  hb := h.hb.keep (hk x h.hb.lt (.inl (.inl rfl)))
  ms := h.ms.keep (hk s h.ms.lt (.inl (.inr (.inl rfl)))) (fun y hy e => hk y hy (.inl (.inr (.inr (.inr (.inl e))))))
  mf := h.mf.keep (hk f h.mf.lt (.inl (.inr (.inr (.inl rfl))))) (fun y hy e => hk y hy (.inl (.inr (.inr (.inr (.inr (.inl e)))))))
  ho := own_keep10 h.ho (fun y hy e => hk y hy (.inl (.inr (.inr (.inr (.inr (.inr e)))))))
  hx := h.hx.keep (fun y hy e => ⟨e, hk y hy (.inr e)⟩)
  cx := h.cx
  cs := h.cs
  cf := h.cf
  cm := fun y e => ⟨(h.cm y e).1, by have := (h.cm y e).2; omega⟩
  cn := fun y e => ⟨(h.cn y e).1, by have := (h.cn y e).2; omega⟩
  cv := h.cv
  cF := fun y e => ⟨(h.cF y e).1, by have := (h.cF y e).2; omega⟩
  st := h.st
  dn := h.dn
  nS := h.nS
  pd := h.pd
theorem IE.ch (h : IE w x s f Ms Mf F c d vp xs) (hc : Ch nob w w') : IE w' x s f Ms Mf F c d vp xs := h.keep (fun y hy _ => hc.block y hy (fun e => e)) hc.size
theorem IE.below (h : IE w x s f Ms Mf F c d vp xs) (hB : Below w.heap.size w w') : IE w' x s f Ms Mf F c d vp xs := h.ch (.of_below hB)
theorem IE.nf (h : IE w x s f Ms Mf F c d vp xs) : ∀ f ∈ nowF d, f.n.size ≤ 24 := now_n24 _ h.nS h.pd
theorem IE.fxs (h : IE w x s f Ms Mf F c d vp xs) : FX w Ms s d.syn := ⟨h.ms, fun e => by have := (h.cm _ e).1; have := h.cs; omega, fun y e => (h.cm y e).2⟩
theorem IE.fxf (h : IE w x s f Ms Mf F c d vp xs) : FX w Mf f (nowF d) := ⟨h.mf, fun e => by have := (h.cn _ e).1; have := h.cf; omega, fun y e => (h.cn y e).2⟩
theorem IE.bd (h : IE w x s f Ms Mf F c d vp xs) : ∀ y, mIE x s f Ms Mf vp y ∨ F y → y < w.heap.size := by
  rintro y ((rfl | rfl | rfl | e | e | e) | e)
  · exact h.hb.lt
  · exact h.ms.lt
  · exact h.mf.lt
  · exact (h.cm y e).2
  · exact (h.cn y e).2
  · exact (h.ho.lt y e).2
  · exact (h.cF y e).2
/-- the fuse, the flag alone -/
theorem IE.blk {d' : Dk} (h : IE w x s f Ms Mf F c d vp xs) (hb : Blk w' x 57 (dcZ d' s f vp)) (hc : Ch (fun y => y = x) w w') (h1 : d'.syn = d.syn) (h2 : d'.pend = d.pend) (h3 : d'.down = true → d'.fuse = 0) : IE w' x s f Ms Mf F c d' vp xs := by
  have hn : nowF d' = nowF d := by unfold nowF; rw [h1, h2]
  have hk : ∀ y, y < w.heap.size → c y ≠ 0 → w'.heap[y]? = w.heap[y]? := fun y hy e => hc.block y hy (fun e2 => e (e2 ▸ h.cx))
  have hz := hc.size
  exact {
    hb := hb
    ms := by rw [h1]; exact h.ms.keep (hk s h.ms.lt (by have := h.cs; omega)) (fun y hy e => hk y hy (by have := (h.cm y e).1; omega))
    mf := by rw [hn]; exact h.mf.keep (hk f h.mf.lt (by have := h.cf; omega)) (fun y hy e => hk y hy (by have := (h.cn y e).1; omega))
    ho := by rw [h2]; exact own_keep10 h.ho (fun y hy e => hk y hy (by have := h.cv y e; omega))
    hx := by rw [h2]; exact h.hx.keep (fun y hy e => ⟨e, hk y hy (by have := (h.cF y e).1; omega)⟩)
    cx := h.cx
    cs := h.cs
    cf := h.cf
    cm := fun y e => ⟨(h.cm y e).1, by have := (h.cm y e).2; omega⟩
    cn := fun y e => ⟨(h.cn y e).1, by have := (h.cn y e).2; omega⟩
    cv := h.cv
    cF := fun y e => ⟨(h.cF y e).1, by have := (h.cF y e).2; omega⟩
    st := by rw [h1]; exact h.st
    dn := h3
    nS := by rw [h1]; exact h.nS
    pd := by rw [h2]; exact h.pd }
set_option maxRecDepth 100000 in
set_option maxHeartbeats 2000000 in
theorem blows_e (x s f : Nat) (vp : Value) (d : Dk) (w : World) (hb : Blk w x 57 (dcZ d s f vp)) (hf : -9223372036854775808 ≤ d.fuse ∧ d.fuse ≤ 9223372036854775807) (hd : d.down = false) :
    Calls Tryd.prog 39 #[.pointer (some ⟨x, 0, none⟩)] w fun e w' => e = .returned (.bool (burnF d).1.down) ∧ Blk w' x 57 (dcZ (burnF d).1 s f vp) ∧ Ch (fun y => y = x) w w' := by
  have hbl : (burnF d).1 = { d with down := d.down || (d.fuse == 0), fuse := if 0 < d.fuse then d.fuse - 1 else d.fuse } := rfl
  have hcl : (dcZ d s f vp).length = 6 := rfl
  obtain ⟨room, syn, pend, fuse, down⟩ := d
  dsimp only at hf hb hbl hd
  subst hd
  obtain ⟨B, hB⟩ : ∃ B, B = (burnF ⟨room, syn, pend, fuse, false⟩).1 := ⟨_, rfl⟩
  rw [← hB] at hbl ⊢
  have Hbl := hid hbl
  clear hB hbl
  have c4 := hb.cellAt 5 _ rfl
  by_cases h0 : fuse = 0
  · subst h0
    have c3 : w.cell? ⟨x, 4, none⟩ = some (.int .i64 0) := hb.cellAt 4 _ rfl
    go_enter Tryd.func39, Tryd.ntmps39
    go_wp2_with (refine wp_st1 4 (.tmp 11) (.const (.bool true)) rfl rfl rfl (f := 5) rfl (v := .bool true) rfl hb (by rw [hcl]; omega) sizeBool rfl rfl ?_; intro w1 hb1 hG1; refine wp_stop ?_)
    have hb1 : Blk w1 x 57 (dcZ ⟨room, syn, pend, 0, true⟩ s f vp) := hb1
    have d4 := hb1.cellAt 5 _ rfl
    have hC1 : Ch (fun y => y = x) w w1 := (Ch.refl _ _).grow hG1 (fun k hk => .inl (by injection hk with hk; exact hk.symm))
    have Hb2 : Hid (B = ⟨room, syn, pend, 0, true⟩) := by show _ = _; rw [Hbl.out]; simp
    have Hb1 := hid hb1
    clear c3 c4 hb hb1 hG1 Hbl
    refine wp_go ?_
    go_wp2
    go_ret
    exact ⟨by rw [Hb2.out]; rfl, by rw [Hb2.out]; exact Hb1.out, hC1⟩
  · have hb0 : (fuse == 0) = false := by rw [beq_eq_false_iff_ne]; exact h0
    by_cases h1 : 0 < fuse
    · have hw : IntKind.i64.wrap (fuse - 1) = fuse - 1 := IntWalk.i64_in _ (by omega)
      have hd0 : decide (0 < fuse) = true := decide_eq_true h1
      have c3 : w.cell? ⟨x, 4, none⟩ = some (.int .i64 fuse) := (hb.cellAt 4 _ rfl).trans (by rw [show max fuse (-1) = fuse from by omega])
      go_enter Tryd.func39, Tryd.ntmps39
      go_wp2_with (refine wp_st1 3 (.tmp 24) (.tmp 22) rfl rfl rfl (f := 4) rfl (v := .int .i64 (fuse - 1)) rfl hb (by rw [hcl]; omega) sizeI10 rfl rfl ?_; intro w1 hb1 hG1; refine wp_stop ?_)
      have hb1 : Blk w1 x 57 (dcZ ⟨room, syn, pend, fuse - 1, false⟩ s f vp) := by
        have e1 : dcZ ⟨room, syn, pend, fuse - 1, false⟩ s f vp = (dcZ ⟨room, syn, pend, fuse, false⟩ s f vp).set 4 (.int .i64 (fuse - 1)) := by
          unfold dcZ
          simp
          omega
        rw [e1]; exact hb1
      have hC1 : Ch (fun y => y = x) w w1 := (Ch.refl _ _).grow hG1 (fun k hk => .inl (by injection hk with hk; exact hk.symm))
      have d4 := hb1.cellAt 5 _ rfl
      have Hb2 : Hid (B = ⟨room, syn, pend, fuse - 1, false⟩) := by show _ = _; rw [Hbl.out, hb0, if_pos h1]; simp
      have Hb1 := hid hb1
      clear c3 c4 hb hb1 hG1 Hbl hw
      refine wp_go ?_
      go_wp2
      go_ret
      exact ⟨by rw [Hb2.out]; rfl, by rw [Hb2.out]; exact Hb1.out, hC1⟩
    · have Hb2 : Hid (B = ⟨room, syn, pend, fuse, false⟩) := by show _ = _; rw [Hbl.out, hb0, if_neg h1]; simp
      have c3 : w.cell? ⟨x, 4, none⟩ = some (.int .i64 (-1)) := (hb.cellAt 4 _ rfl).trans (by rw [show max fuse (-1) = -1 from by omega])
      clear Hbl
      go_enter Tryd.func39, Tryd.ntmps39
      go_wp2
      go_ret
      exact ⟨by rw [Hb2.out]; rfl, by rw [Hb2.out]; exact hb, Ch.refl _ _⟩
set_option maxRecDepth 100000 in
set_option maxHeartbeats 4000000 in
theorem refusal_e (x s f : Nat) (vp : Value) (F : Nat → Prop) (d : Dk) (a : Ac) (Aa : Option Addr) (ca : Nat) (w : World) (hb : Blk w x 57 (dcZ d s f vp)) (hM : FMs Tryd.prog 9 w F f (nowF d)) (hs : DkSm d) (hn : a.n.size ≤ maxLen) (hab : a.b.length ≤ 1000000000) :
    Calls Tryd.prog 40 #[.pointer (some ⟨x, 0, none⟩), thV a (.slice Aa a.b.length ca)] w fun e w' => e = .returned (.int .i64 (refF d a)) ∧ Below w.heap.size w w' := by
  have hnb := now_bd d.pend d.syn
  have hst := hs.t
  have htt : tot (nowF d) ≤ 1000000000 := by unfold nowF; omega
  have hzz := fun h => sz_int a h (nowF d) (hM.uq (string_keyed Tryd.underlying9))
  have hlb := los_bd a (nowF d)
  have hrm := hs.r
  unfold thV
  have b0 := Blk.new' w 60 (apL a (.slice Aa a.b.length ca))
  have hB0 : Below w.heap.size w (w.alloc (.cells (apL a (.slice Aa a.b.length ca)).toArray 60)) := (Below.refl _ _).alloc (Nat.le_refl _) _
  replace hb := hb.below hB0
  replace hM := hM.below hB0
  obtain ⟨w0, hw0⟩ : ∃ u, u = w.alloc (.cells (apL a (.slice Aa a.b.length ca)).toArray 60) := ⟨_, rfl⟩
  rw [← hw0] at b0 hB0 hb hM
  clear hnb hst hs
  go_enter Tryd.func40, Tryd.ntmps40
  go_wp2_with (fail)
  change Calls _ _ _ (w.alloc (.cells (apL a (.slice Aa a.b.length ca)).toArray 60)) _
  rw [← hw0]
  clear hw0
  obtain ⟨g, hg⟩ : ∃ g, g = w.heap.size := ⟨_, rfl⟩
  rw [← hg] at b0 ⊢
  clear hg
  refine (isName_any a.n _).mono ?_
  rintro e w1 ⟨rfl, rfl⟩
  have q0 := b0.cellAt 0 _ rfl
  have q2 := b0.cellAt 2 _ rfl
  cases h1 : namF a.n with
  | false =>
    have hr : Hid (refF d a = 15) := hid (by unfold refF; rw [if_pos (.inl h1)])
    clear h1 hzz b0 hb hM q2
    go_wp2
    go_ret
    exact ⟨by rw [hr.out]; rfl, hB0⟩
  | true =>
    by_cases hk2 : a.k = 2
    · have e2 : (a.k == 2) = true := beq_iff_eq.2 hk2
      have e20 : (a.k == 0) = false := beq_eq_false_iff_ne.2 (by omega)
      have hpf : putsF a = false := decide_eq_false (by omega)
      have hr0 : namF a.t = true → Hid (refF d a = if (findF (nowF d) a.n).isSome = false then 13 else 0) := fun h => hid (by unfold refF; rw [if_neg (by rintro (e | e); rw [h1] at e; cases e; rw [h] at e; cases e.2), if_neg (by omega)])
      have hr1 : namF a.t = false → Hid (refF d a = 15) := fun h => hid (by unfold refF; rw [if_pos (.inr ⟨hk2, h⟩)])
      have HP := hid hpf
      clear h1 hk2 hzz hpf
      go_wp2_with (fail)
      refine (isName_any a.t _).mono ?_
      rintro e w2 ⟨rfl, rfl⟩
      cases h3 : namF a.t with
      | false =>
        have hr := hr1 h3
        clear hr0 hr1 h3 b0 hb hM q2
        go_wp2
        go_ret
        exact ⟨by rw [hr.out]; rfl, hB0⟩
      | true =>
        have hr := hr0 h3
        clear hr0 hr1 h3 q0 q2
        go_wp2_with (first | (refine wp_ld 60 (.tmp 3) rfl rfl rfl b0.whole Tryd.underlying60 rfl sizeTh ?_) | fail)
        refine (puts_any a (.slice Aa a.b.length ca) _).mono ?_
        rintro e w2 ⟨rfl, hB2⟩
        rw [HP.out]
        have hb2 := hb.below hB2
        have b2 := b0.below hB2
        have hM2 := hM.below hB2
        replace hB0 := hB0.trans (hB2.mono hB0.size)
        clear b0 hb hM e2 HP hB2
        go_upto_region 7 with (fail)
        have HF : Hid (∀ W, Ch nob w2 W → W.cell? ⟨x, 2, none⟩ = some (.map (some f))) := hid fun W hc => (hb2.ch hc (fun h => h)).cellAt 2 _ rfl
        have HR : Hid (∀ W, Ch nob w2 W → W.cell? ⟨x, 0, none⟩ = some (.int .i64 d.room)) := hid fun W hc => (hb2.ch hc (fun h => h)).cellAt 0 _ rfl
        have HN : Hid (∀ W, Ch nob w2 W → W.cell? ⟨g, 1, none⟩ = some (.string a.n)) := hid fun W hc => (b2.ch hc (fun h => h)).cellAt 1 _ rfl
        have HC : Hid (∀ W, Ch nob w2 W → W.cell? ⟨g, 3, none⟩ = some (.slice Aa a.b.length ca)) := hid fun W hc => (b2.ch hc (fun h => h)).cellAt 3 _ rfl
        have HA : Hid (∀ W, Ch nob w2 W → W.rangeAt g 0 (apL a (.slice Aa a.b.length ca))) := hid fun W hc => (b2.ch hc (fun h => h)).whole
        have HM : Hid (∀ W, Ch nob w2 W → FMs Tryd.prog 9 W F f (nowF d)) := hid fun W hc => hM2.keep (hc.block f hM2.lt (fun h => h)) (fun y hy hF => ⟨hF, hc.block y hy (fun h => h)⟩)
        clear hb2 b2 hM2
        refine wp_region_noPanic ?_
        refine wp_region_held_drew (S := Ch nob w2) (by kernel_rfl) ((Ch.refl _ _).drew) (fun hHeld => ?_)
        refine wpAnyH_take (i := 0) (oi := ⟨some 43, _, _, _, _, none⟩) (v := ?_) rfl (by kernel_rfl) (by kernel_rfl) (by kernel_rfl) (fun _ _ _ h => h) (Or.inl ⟨by rfl, ?_⟩) (by assumption) ?_
        rotate_left
        · intro w hSw; go_simp; try with_reducible rfl
        try simp only [Act.put, List.setIfInBounds_toArray, List.set_cons_zero, List.set_cons_succ]
        refine wpAnyH_take (i := 1) (oi := ⟨some 44, _, _, _, _, none⟩) (v := ?_) rfl (by kernel_rfl) (by kernel_rfl) (by kernel_rfl) (fun _ _ _ h => h) (Or.inl ⟨by rfl, ?_⟩) (by assumption) ?_
        rotate_left
        · intro w hSw; go_simp; try with_reducible rfl
        try simp only [Act.put, List.setIfInBounds_toArray, List.set_cons_zero, List.set_cons_succ]
        refine wpAnyH_take (i := 2) (oi := ⟨some 45, _, _, _, _, none⟩) (v := ?_) rfl (by kernel_rfl) (by kernel_rfl) (by kernel_rfl) (fun _ _ _ h => h) (Or.inl ⟨by rfl, ?_⟩) (by assumption) ?_
        rotate_left
        · intro w hSw; go_simp; try with_reducible rfl
        try simp only [Act.put, List.setIfInBounds_toArray, List.set_cons_zero, List.set_cons_succ]
        refine wpAnyH_take (i := 3) (oi := ⟨some 46, _, _, _, _, none⟩) (v := ?_) rfl (by kernel_rfl) (by kernel_rfl) (by kernel_rfl) (fun _ _ _ h => h) (Or.inl ⟨by rfl, ?_⟩) (by assumption) ?_
        rotate_left
        · intro w hSw; have hcw := HF.out w hSw; go_simp; try with_reducible rfl
        try simp only [Act.put, List.setIfInBounds_toArray, List.set_cons_zero, List.set_cons_succ]
        refine wpAnyH_take (i := 4) (oi := ⟨some 47, _, _, _, _, none⟩) (v := ?_) rfl (by kernel_rfl) (by kernel_rfl) (by kernel_rfl) (fun _ _ _ h => h) (Or.inl ⟨by rfl, ?_⟩) (by assumption) ?_
        rotate_left
        · intro w hSw; go_simp; try with_reducible rfl
        try simp only [Act.put, List.setIfInBounds_toArray, List.set_cons_zero, List.set_cons_succ]
        refine wpAnyH_take (i := 5) (oi := ⟨some 48, _, _, _, _, none⟩) (v := ?_) rfl (by kernel_rfl) (by kernel_rfl) (by kernel_rfl) (fun _ _ _ h => h) (Or.inl ⟨by rfl, ?_⟩) (by assumption) ?_
        rotate_left
        · intro w hSw; have hcw := HN.out w hSw; go_simp; try with_reducible rfl
        try simp only [Act.put, List.setIfInBounds_toArray, List.set_cons_zero, List.set_cons_succ]
        refine wpAnyH_ready (rs := [6]) (by kernel_rfl) (by simp) ?_
        refine AllReadyH.cons (o := ⟨some 49, _, _, _, _, none⟩) rfl (fun K hK => ?_) AllReadyH.nil
        go_simp
        refine (has_e f (nowF d) F a.n _ (HM.out _ hHeld) hn).mono ?_
        rintro e w10 ⟨rfl, rfl⟩
        refine hK.out _ _ (hHeld) (fun hHeld => ?_)
        clear hK K
        try simp only [Act.put, List.setIfInBounds_toArray, List.set_cons_zero, List.set_cons_succ]
        refine wpAnyH_take (i := 7) (oi := ⟨some 50, _, _, _, _, none⟩) (v := ?_) rfl (by kernel_rfl) (by kernel_rfl) (by kernel_rfl) (fun _ _ _ h => h) (Or.inl ⟨by rfl, ?_⟩) (by assumption) ?_
        rotate_left
        · intro w hSw; go_simp; try with_reducible rfl
        try simp only [Act.put, List.setIfInBounds_toArray, List.set_cons_zero, List.set_cons_succ]
        refine wpAnyH_done (by kernel_rfl) ?_ _
        refine NoPanic.normal ?_
        have hC5 : Ch nob w2 _ := hHeld
        have hBf := Ch.below_of hB0 hC5 (fun _ h => h.elim) hB0.size
        clear HF HR HN HC HA HM hHeld
        cases hf : findF (nowF d) a.n with
        | none =>
          have hi : (findF (nowF d) a.n).isNone = true := by rw [hf]; rfl
          have hr2 : Hid (refF d a = 13) := hid (by rw [hr.out, hf]; rfl)
          clear hr hf
          go_wp2
          go_ret
          exact ⟨by rw [hr2.out]; rfl, hBf⟩
        | some bb =>
          have hi : (findF (nowF d) a.n).isNone = false := by rw [hf]; rfl
          have hr2 : Hid (refF d a = 0) := hid (by rw [hr.out, hf, if_neg (by simp)])
          clear hr hf
          go_wp2
          go_ret
          exact ⟨by rw [hr2.out]; rfl, hBf⟩
    · have e2 : (a.k == 2) = false := beq_eq_false_iff_ne.2 hk2
      have hn1 : ¬ (namF a.n = false ∨ (a.k = 2 ∧ namF a.t = false)) := by rintro (e | e); rw [h1] at e; cases e; exact hk2 e.1
      by_cases hk1 : a.k = 0 ∨ a.k = 1
      · have hpf : Hid (putsF a = true) := hid (decide_eq_true hk1)
        have hzi := hzz hk1
        have hr0 : d.room < (szA a (nowF d) : Int) → Hid (refF d a = 4) := fun h => hid (by unfold refF; rw [if_neg hn1, if_pos hk1, if_pos h])
        have hr1 : ¬ d.room < (szA a (nowF d) : Int) → Hid (refF d a = 0) := fun h => hid (by unfold refF; rw [if_neg hn1, if_pos hk1, if_neg h])
        have Hr0 := hid hr0
        have Hr1 := hid hr1
        clear h1 hk2 hk1 hzz hn1 q2 hr0 hr1
        go_wp2_with (first | (refine wp_ld 60 (.tmp 3) rfl rfl rfl b0.whole Tryd.underlying60 rfl sizeTh ?_) | fail)
        refine (puts_any a (.slice Aa a.b.length ca) _).mono ?_
        rintro e w2 ⟨rfl, hB2⟩
        rw [hpf.out]
        have hb2 := hb.below hB2
        have b2 := b0.below hB2
        have hM2 := hM.below hB2
        replace hB0 := hB0.trans (hB2.mono hB0.size)
        obtain ⟨T, hT⟩ : ∃ T : Int, T = (tot (nowF d) : Int) := ⟨_, rfl⟩
        obtain ⟨J, hJ⟩ : ∃ J : Int, J = losF (nowF d) a := ⟨_, rfl⟩
        have hw1 : IntKind.i64.wrap ((tot (nowF d) : Int) - losF (nowF d) a) = (tot (nowF d) : Int) - losF (nowF d) a := IntWalk.i64_in _ (by omega)
        have hw2 : IntKind.i64.wrap ((tot (nowF d) : Int) - losF (nowF d) a + (a.b.length : Int)) = (tot (nowF d) : Int) - losF (nowF d) a + (a.b.length : Int) := IntWalk.i64_in _ (by omega)
        clear hT hJ b0 hb hM q0 e2 hpf hB2
        go_upto_region 4 with (fail)
        have HF : Hid (∀ W, Ch nob w2 W → W.cell? ⟨x, 2, none⟩ = some (.map (some f))) := hid fun W hc => (hb2.ch hc (fun h => h)).cellAt 2 _ rfl
        have HR : Hid (∀ W, Ch nob w2 W → W.cell? ⟨x, 0, none⟩ = some (.int .i64 d.room)) := hid fun W hc => (hb2.ch hc (fun h => h)).cellAt 0 _ rfl
        have HN : Hid (∀ W, Ch nob w2 W → W.cell? ⟨g, 1, none⟩ = some (.string a.n)) := hid fun W hc => (b2.ch hc (fun h => h)).cellAt 1 _ rfl
        have HC : Hid (∀ W, Ch nob w2 W → W.cell? ⟨g, 3, none⟩ = some (.slice Aa a.b.length ca)) := hid fun W hc => (b2.ch hc (fun h => h)).cellAt 3 _ rfl
        have HA : Hid (∀ W, Ch nob w2 W → W.rangeAt g 0 (apL a (.slice Aa a.b.length ca))) := hid fun W hc => (b2.ch hc (fun h => h)).whole
        have HM : Hid (∀ W, Ch nob w2 W → FMs Tryd.prog 9 W F f (nowF d)) := hid fun W hc => hM2.keep (hc.block f hM2.lt (fun h => h)) (fun y hy hF => ⟨hF, hc.block y hy (fun h => h)⟩)
        clear hb2 b2 hM2
        refine wp_region_noPanic ?_
        refine wp_region_held_drew (S := Ch nob w2) (by kernel_rfl) ((Ch.refl _ _).drew) (fun hHeld => ?_)
        refine wpAnyH_take (i := 0) (oi := ⟨some 22, _, _, _, _, none⟩) (v := ?_) rfl (by kernel_rfl) (by kernel_rfl) (by kernel_rfl) (fun _ _ _ h => h) (Or.inl ⟨by rfl, ?_⟩) (by assumption) ?_
        rotate_left
        · intro w hSw; go_simp; try with_reducible rfl
        try simp only [Act.put, List.setIfInBounds_toArray, List.set_cons_zero, List.set_cons_succ]
        refine wpAnyH_take (i := 1) (oi := ⟨some 23, _, _, _, _, none⟩) (v := ?_) rfl (by kernel_rfl) (by kernel_rfl) (by kernel_rfl) (fun _ _ _ h => h) (Or.inl ⟨by rfl, ?_⟩) (by assumption) ?_
        rotate_left
        · intro w hSw; go_simp; try with_reducible rfl
        try simp only [Act.put, List.setIfInBounds_toArray, List.set_cons_zero, List.set_cons_succ]
        refine wpAnyH_take (i := 2) (oi := ⟨some 24, _, _, _, _, none⟩) (v := ?_) rfl (by kernel_rfl) (by kernel_rfl) (by kernel_rfl) (fun _ _ _ h => h) (Or.inl ⟨by rfl, ?_⟩) (by assumption) ?_
        rotate_left
        · intro w hSw; go_simp; try with_reducible rfl
        try simp only [Act.put, List.setIfInBounds_toArray, List.set_cons_zero, List.set_cons_succ]
        refine wpAnyH_take (i := 3) (oi := ⟨some 25, _, _, _, _, none⟩) (v := ?_) rfl (by kernel_rfl) (by kernel_rfl) (by kernel_rfl) (fun _ _ _ h => h) (Or.inl ⟨by rfl, ?_⟩) (by assumption) ?_
        rotate_left
        · intro w hSw; have hcw := HF.out w hSw; go_simp; try with_reducible rfl
        try simp only [Act.put, List.setIfInBounds_toArray, List.set_cons_zero, List.set_cons_succ]
        refine wpAnyH_take (i := 5) (oi := ⟨some 27, _, _, _, _, none⟩) (v := ?_) rfl (by kernel_rfl) (by kernel_rfl) (by kernel_rfl) (fun _ _ _ h => h) (Or.inl ⟨by rfl, ?_⟩) (by assumption) ?_
        rotate_left
        · intro w hSw; go_simp; try with_reducible rfl
        try simp only [Act.put, List.setIfInBounds_toArray, List.set_cons_zero, List.set_cons_succ]
        refine wpAnyH_take (i := 6) (oi := ⟨some 28, _, _, _, _, none⟩) (v := ?_) rfl (by kernel_rfl) (by kernel_rfl) (by kernel_rfl) (fun _ _ _ h => h) (Or.inl ⟨by rfl, ?_⟩) (by assumption) ?_
        rotate_left
        · intro w hSw; go_simp; try with_reducible rfl
        try simp only [Act.put, List.setIfInBounds_toArray, List.set_cons_zero, List.set_cons_succ]
        refine wpAnyH_take (i := 7) (oi := ⟨some 29, _, _, _, _, none⟩) (v := ?_) rfl (by kernel_rfl) (by kernel_rfl) (by kernel_rfl) (fun _ _ _ h => h) (Or.inl ⟨by rfl, ?_⟩) (by assumption) ?_
        rotate_left
        · intro w hSw; go_simp; try with_reducible rfl
        try simp only [Act.put, List.setIfInBounds_toArray, List.set_cons_zero, List.set_cons_succ]
        refine wpAnyH_take (i := 8) (oi := ⟨some 30, _, _, _, _, none⟩) (v := ?_) rfl (by kernel_rfl) (by kernel_rfl) (by kernel_rfl) (fun _ _ _ h => h) (Or.inl ⟨by rfl, ?_⟩) (by assumption) ?_
        rotate_left
        · intro w hSw; have hcw := HF.out w hSw; go_simp; try with_reducible rfl
        try simp only [Act.put, List.setIfInBounds_toArray, List.set_cons_zero, List.set_cons_succ]
        refine wpAnyH_take (i := 9) (oi := ⟨some 31, .load 60 (.tmp 3), _, _, _, none⟩) (v := _) rfl (by kernel_rfl) (by kernel_rfl) (by kernel_rfl) (fun _ _ _ h => h) (yieldsIf_load_mid (by rfl) 60 (.tmp 3) (by rfl) _ (0) (by rfl) _ _ (fun _ hs => HA.out _ hs) Tryd.underlying60 rfl (sizeTh)) (by assumption) ?_
        try simp only [Act.put, List.setIfInBounds_toArray, List.set_cons_zero, List.set_cons_succ]
        refine wpAnyH_take (i := 12) (oi := ⟨some 34, _, _, _, _, none⟩) (v := ?_) rfl (by kernel_rfl) (by kernel_rfl) (by kernel_rfl) (fun _ _ _ h => h) (Or.inl ⟨by rfl, ?_⟩) (by assumption) ?_
        rotate_left
        · intro w hSw; go_simp; try with_reducible rfl
        try simp only [Act.put, List.setIfInBounds_toArray, List.set_cons_zero, List.set_cons_succ]
        refine wpAnyH_take (i := 13) (oi := ⟨some 35, _, _, _, _, none⟩) (v := ?_) rfl (by kernel_rfl) (by kernel_rfl) (by kernel_rfl) (fun _ _ _ h => h) (Or.inl ⟨by rfl, ?_⟩) (by assumption) ?_
        rotate_left
        · intro w hSw; have hcw := HC.out w hSw; go_simp; try with_reducible rfl
        try simp only [Act.put, List.setIfInBounds_toArray, List.set_cons_zero, List.set_cons_succ]
        refine wpAnyH_take (i := 14) (oi := ⟨some 36, _, _, _, _, none⟩) (v := ?_) rfl (by kernel_rfl) (by kernel_rfl) (by kernel_rfl) (fun _ _ _ h => h) (Or.inl ⟨by rfl, ?_⟩) (by assumption) ?_
        rotate_left
        · intro w hSw; go_simp; try with_reducible rfl
        try simp only [Act.put, List.setIfInBounds_toArray, List.set_cons_zero, List.set_cons_succ]
        refine wpAnyH_take (i := 16) (oi := ⟨some 38, _, _, _, _, none⟩) (v := ?_) rfl (by kernel_rfl) (by kernel_rfl) (by kernel_rfl) (fun _ _ _ h => h) (Or.inl ⟨by rfl, ?_⟩) (by assumption) ?_
        rotate_left
        · intro w hSw; go_simp; try with_reducible rfl
        try simp only [Act.put, List.setIfInBounds_toArray, List.set_cons_zero, List.set_cons_succ]
        refine wpAnyH_take (i := 17) (oi := ⟨some 39, _, _, _, _, none⟩) (v := ?_) rfl (by kernel_rfl) (by kernel_rfl) (by kernel_rfl) (fun _ _ _ h => h) (Or.inl ⟨by rfl, ?_⟩) (by assumption) ?_
        rotate_left
        · intro w hSw; go_simp; try with_reducible rfl
        try simp only [Act.put, List.setIfInBounds_toArray, List.set_cons_zero, List.set_cons_succ]
        refine wpAnyH_take (i := 18) (oi := ⟨some 40, _, _, _, _, none⟩) (v := ?_) rfl (by kernel_rfl) (by kernel_rfl) (by kernel_rfl) (fun _ _ _ h => h) (Or.inl ⟨by rfl, ?_⟩) (by assumption) ?_
        rotate_left
        · intro w hSw; go_simp; try with_reducible rfl
        try simp only [Act.put, List.setIfInBounds_toArray, List.set_cons_zero, List.set_cons_succ]
        refine wpAnyH_take (i := 19) (oi := ⟨some 41, _, _, _, _, none⟩) (v := ?_) rfl (by kernel_rfl) (by kernel_rfl) (by kernel_rfl) (fun _ _ _ h => h) (Or.inl ⟨by rfl, ?_⟩) (by assumption) ?_
        rotate_left
        · intro w hSw; have hcw := HR.out w hSw; go_simp; try with_reducible rfl
        try simp only [Act.put, List.setIfInBounds_toArray, List.set_cons_zero, List.set_cons_succ]
        refine wpAnyH_ready (rs := [4]) (by kernel_rfl) (by simp) ?_
        refine AllReadyH.cons (o := ⟨some 26, _, _, _, _, none⟩) rfl (fun K hK => ?_) AllReadyH.nil
        go_simp
        refine (size_e f (nowF d) F _ (HM.out _ hHeld) htt).mono ?_
        rintro e w4 ⟨rfl, hB4⟩
        refine hK.out _ _ (hHeld.belowG hB4) (fun hHeld => ?_)
        clear hK K
        try simp only [Act.put, List.setIfInBounds_toArray, List.set_cons_zero, List.set_cons_succ]
        refine wpAnyH_ready (rs := [10]) (by kernel_rfl) (by simp) ?_
        refine AllReadyH.cons (o := ⟨some 32, _, _, _, _, none⟩) rfl (fun K hK => ?_) AllReadyH.nil
        go_simp
        refine (loses_e f (nowF d) F a Aa a.b.length ca _ (HM.out _ hHeld) hn).mono ?_
        rintro e w10 ⟨rfl, hB10⟩
        refine hK.out _ _ (hHeld.belowG hB10) (fun hHeld => ?_)
        clear hK K
        try simp only [Act.put, List.setIfInBounds_toArray, List.set_cons_zero, List.set_cons_succ]
        refine wpAnyH_take (i := 11) (oi := ⟨some 33, _, _, _, _, none⟩) (v := ?_) rfl (by kernel_rfl) (by kernel_rfl) (by kernel_rfl) (fun _ _ _ h => h) (Or.inl ⟨by rfl, ?_⟩) (by assumption) ?_
        rotate_left
        · intro w hSw; go_simp; try with_reducible rfl
        try simp only [Act.put, List.setIfInBounds_toArray, List.set_cons_zero, List.set_cons_succ]
        refine wpAnyH_take (i := 15) (oi := ⟨some 37, _, _, _, _, none⟩) (v := ?_) rfl (by kernel_rfl) (by kernel_rfl) (by kernel_rfl) (fun _ _ _ h => h) (Or.inl ⟨by rfl, ?_⟩) (by assumption) ?_
        rotate_left
        · intro w hSw; go_simp; try with_reducible rfl
        try simp only [Act.put, List.setIfInBounds_toArray, List.set_cons_zero, List.set_cons_succ]
        refine wpAnyH_take (i := 20) (oi := ⟨some 42, _, _, _, _, none⟩) (v := ?_) rfl (by kernel_rfl) (by kernel_rfl) (by kernel_rfl) (fun _ _ _ h => h) (Or.inl ⟨by rfl, ?_⟩) (by assumption) ?_
        rotate_left
        · intro w hSw; go_simp; try with_reducible rfl
        try simp only [Act.put, List.setIfInBounds_toArray, List.set_cons_zero, List.set_cons_succ]
        refine wpAnyH_done (by kernel_rfl) ?_ _
        refine NoPanic.normal ?_
        have hC5 : Ch nob w2 _ := hHeld
        have hBf := Ch.below_of hB0 hC5 (fun _ h => h.elim) hB0.size
        clear HF HR HN HC HA HM hHeld hw1 hw2
        by_cases hg : d.room < (szA a (nowF d) : Int)
        · have hg2 : d.room < (tot (nowF d) : Int) - losF (nowF d) a + (a.b.length : Int) := by omega
          have hr := Hr0.out (by omega)
          clear Hr0 Hr1 hg hzi
          go_wp2
          go_ret
          exact ⟨by rw [hr.out]; rfl, hBf⟩
        · have hg2 : ¬ d.room < (tot (nowF d) : Int) - losF (nowF d) a + (a.b.length : Int) := by omega
          have hr := Hr1.out (by omega)
          clear Hr0 Hr1 hg hzi
          go_wp2
          go_ret
          exact ⟨by rw [hr.out]; rfl, hBf⟩
      · have hr : Hid (refF d a = if (findF (nowF d) a.n).isSome = false then 13 else 0) := hid (by unfold refF; rw [if_neg hn1, if_neg hk1])
        have HP : Hid (putsF a = false) := hid (decide_eq_false hk1)
        clear h1 hk2 hk1 hzz hn1 q2
        go_wp2_with (first | (refine wp_ld 60 (.tmp 3) rfl rfl rfl b0.whole Tryd.underlying60 rfl sizeTh ?_) | fail)
        refine (puts_any a (.slice Aa a.b.length ca) _).mono ?_
        rintro e w2 ⟨rfl, hB2⟩
        rw [HP.out]
        have hb2 := hb.below hB2
        have b2 := b0.below hB2
        have hM2 := hM.below hB2
        replace hB0 := hB0.trans (hB2.mono hB0.size)
        clear b0 hb hM e2 HP hB2
        go_upto_region 7 with (fail)
        have HF : Hid (∀ W, Ch nob w2 W → W.cell? ⟨x, 2, none⟩ = some (.map (some f))) := hid fun W hc => (hb2.ch hc (fun h => h)).cellAt 2 _ rfl
        have HR : Hid (∀ W, Ch nob w2 W → W.cell? ⟨x, 0, none⟩ = some (.int .i64 d.room)) := hid fun W hc => (hb2.ch hc (fun h => h)).cellAt 0 _ rfl
        have HN : Hid (∀ W, Ch nob w2 W → W.cell? ⟨g, 1, none⟩ = some (.string a.n)) := hid fun W hc => (b2.ch hc (fun h => h)).cellAt 1 _ rfl
        have HC : Hid (∀ W, Ch nob w2 W → W.cell? ⟨g, 3, none⟩ = some (.slice Aa a.b.length ca)) := hid fun W hc => (b2.ch hc (fun h => h)).cellAt 3 _ rfl
        have HA : Hid (∀ W, Ch nob w2 W → W.rangeAt g 0 (apL a (.slice Aa a.b.length ca))) := hid fun W hc => (b2.ch hc (fun h => h)).whole
        have HM : Hid (∀ W, Ch nob w2 W → FMs Tryd.prog 9 W F f (nowF d)) := hid fun W hc => hM2.keep (hc.block f hM2.lt (fun h => h)) (fun y hy hF => ⟨hF, hc.block y hy (fun h => h)⟩)
        clear hb2 b2 hM2
        refine wp_region_noPanic ?_
        refine wp_region_held_drew (S := Ch nob w2) (by kernel_rfl) ((Ch.refl _ _).drew) (fun hHeld => ?_)
        refine wpAnyH_take (i := 0) (oi := ⟨some 43, _, _, _, _, none⟩) (v := ?_) rfl (by kernel_rfl) (by kernel_rfl) (by kernel_rfl) (fun _ _ _ h => h) (Or.inl ⟨by rfl, ?_⟩) (by assumption) ?_
        rotate_left
        · intro w hSw; go_simp; try with_reducible rfl
        try simp only [Act.put, List.setIfInBounds_toArray, List.set_cons_zero, List.set_cons_succ]
        refine wpAnyH_take (i := 1) (oi := ⟨some 44, _, _, _, _, none⟩) (v := ?_) rfl (by kernel_rfl) (by kernel_rfl) (by kernel_rfl) (fun _ _ _ h => h) (Or.inl ⟨by rfl, ?_⟩) (by assumption) ?_
        rotate_left
        · intro w hSw; go_simp; try with_reducible rfl
        try simp only [Act.put, List.setIfInBounds_toArray, List.set_cons_zero, List.set_cons_succ]
        refine wpAnyH_take (i := 2) (oi := ⟨some 45, _, _, _, _, none⟩) (v := ?_) rfl (by kernel_rfl) (by kernel_rfl) (by kernel_rfl) (fun _ _ _ h => h) (Or.inl ⟨by rfl, ?_⟩) (by assumption) ?_
        rotate_left
        · intro w hSw; go_simp; try with_reducible rfl
        try simp only [Act.put, List.setIfInBounds_toArray, List.set_cons_zero, List.set_cons_succ]
        refine wpAnyH_take (i := 3) (oi := ⟨some 46, _, _, _, _, none⟩) (v := ?_) rfl (by kernel_rfl) (by kernel_rfl) (by kernel_rfl) (fun _ _ _ h => h) (Or.inl ⟨by rfl, ?_⟩) (by assumption) ?_
        rotate_left
        · intro w hSw; have hcw := HF.out w hSw; go_simp; try with_reducible rfl
        try simp only [Act.put, List.setIfInBounds_toArray, List.set_cons_zero, List.set_cons_succ]
        refine wpAnyH_take (i := 4) (oi := ⟨some 47, _, _, _, _, none⟩) (v := ?_) rfl (by kernel_rfl) (by kernel_rfl) (by kernel_rfl) (fun _ _ _ h => h) (Or.inl ⟨by rfl, ?_⟩) (by assumption) ?_
        rotate_left
        · intro w hSw; go_simp; try with_reducible rfl
        try simp only [Act.put, List.setIfInBounds_toArray, List.set_cons_zero, List.set_cons_succ]
        refine wpAnyH_take (i := 5) (oi := ⟨some 48, _, _, _, _, none⟩) (v := ?_) rfl (by kernel_rfl) (by kernel_rfl) (by kernel_rfl) (fun _ _ _ h => h) (Or.inl ⟨by rfl, ?_⟩) (by assumption) ?_
        rotate_left
        · intro w hSw; have hcw := HN.out w hSw; go_simp; try with_reducible rfl
        try simp only [Act.put, List.setIfInBounds_toArray, List.set_cons_zero, List.set_cons_succ]
        refine wpAnyH_ready (rs := [6]) (by kernel_rfl) (by simp) ?_
        refine AllReadyH.cons (o := ⟨some 49, _, _, _, _, none⟩) rfl (fun K hK => ?_) AllReadyH.nil
        go_simp
        refine (has_e f (nowF d) F a.n _ (HM.out _ hHeld) hn).mono ?_
        rintro e w10 ⟨rfl, rfl⟩
        refine hK.out _ _ (hHeld) (fun hHeld => ?_)
        clear hK K
        try simp only [Act.put, List.setIfInBounds_toArray, List.set_cons_zero, List.set_cons_succ]
        refine wpAnyH_take (i := 7) (oi := ⟨some 50, _, _, _, _, none⟩) (v := ?_) rfl (by kernel_rfl) (by kernel_rfl) (by kernel_rfl) (fun _ _ _ h => h) (Or.inl ⟨by rfl, ?_⟩) (by assumption) ?_
        rotate_left
        · intro w hSw; go_simp; try with_reducible rfl
        try simp only [Act.put, List.setIfInBounds_toArray, List.set_cons_zero, List.set_cons_succ]
        refine wpAnyH_done (by kernel_rfl) ?_ _
        refine NoPanic.normal ?_
        have hC5 : Ch nob w2 _ := hHeld
        have hBf := Ch.below_of hB0 hC5 (fun _ h => h.elim) hB0.size
        clear HF HR HN HC HA HM hHeld
        cases hf : findF (nowF d) a.n with
        | none =>
          have hi : (findF (nowF d) a.n).isNone = true := by rw [hf]; rfl
          have hr2 : Hid (refF d a = 13) := hid (by rw [hr.out, hf]; rfl)
          clear hr hf
          go_wp2
          go_ret
          exact ⟨by rw [hr2.out]; rfl, hBf⟩
        | some bb =>
          have hi : (findF (nowF d) a.n).isNone = false := by rw [hf]; rfl
          have hr2 : Hid (refF d a = 0) := hid (by rw [hr.out, hf, if_neg (by simp)])
          clear hr hf
          go_wp2
          go_ret
          exact ⟨by rw [hr2.out]; rfl, hBf⟩
end Go.Proofs.YtijhicfegbaadaaDoor
/- E5: layer 10: do: a thing that is done to the landed disk. -/
namespace Go.V
open Go.RowKit
theorem ref_nrm (d : Dk) (a : Ac) : refF d (nrmA a) = refF d a := by
  unfold refF szA
  rw [nrm_k, nrm_n]
  by_cases h2 : a.k = 2
  · have e : (nrmA a).t = a.t := by unfold nrmA; rw [if_neg (by omega), if_pos h2]
    rw [e, if_neg (show ¬ (a.k = 0 ∨ a.k = 1) by omega), if_neg (show ¬ (a.k = 0 ∨ a.k = 1) by omega)]
  · by_cases h1 : a.k = 0 ∨ a.k = 1
    · have e : (nrmA a).b = a.b := by unfold nrmA; rw [if_pos h1]
      rw [e]
      simp [h2]
    · rw [if_neg h1, if_neg h1]
      simp [h2]
theorem ref_ok {d : Dk} {a : Ac} (hk : 0 ≤ a.k ∧ a.k ≤ 3) (ha : AcSm a) (h : refF d a = 0) : PdOk a := by
  have hn : ¬ (namF a.n = false ∨ (a.k = 2 ∧ namF a.t = false)) := fun e => by unfold refF at h; rw [if_pos e] at h; omega
  have h1 : namF a.n = true := by
    cases e : namF a.n with
    | false => exact absurd (.inl e) hn
    | true => rfl
  have hz : ByteArray.empty.size ≤ 24 := by simp
  refine ⟨hk, ha, (of_decide_eq_true h1).2, ?_⟩
  unfold nrmA
  split
  · exact hz
  · split
    · rename_i h2
      have h3 : namF a.t = true := by
        cases e : namF a.t with
        | false => exact absurd (.inr ⟨h2, e⟩) hn
        | true => rfl
      exact (of_decide_eq_true h3).2
    · exact hz
theorem push_dn (d : Dk) (a : Ac) : pushF d a = if (burnF d).1.down = true then ((burnF d).1, 14) else ({ (burnF d).1 with pend := d.pend ++ [a] }, 0) := by
  unfold pushF
  have e : (burnF d).2 = !(burnF d).1.down := rfl
  rw [e]
  cases (burnF d).1.down <;> rfl
theorem do_dn {d : Dk} {a : Ac} (hk : 0 ≤ a.k ∧ a.k ≤ 3) (hd : d.down = true) : doF d a = (d, 14) := by
  by_cases h01 : a.k = 0 ∨ a.k = 1
  · rw [do_put h01, if_pos hd]
  · rw [do_find (by omega), if_pos hd]
def cN (c : Nat → Nat) (a b e : Nat) (y : Nat) : Nat := if y < a then c y else if y < b then 6 else if y < e then 5 else 4
end Go.V
namespace Go.Proofs.YtijhicfegbaadaaDoor
open Go.RowKit Go.V Go.Maps
/-- what is left of a disk, x its block ahead and behind -/
def LfE (w : World) (x s f : Nat) (Ms Mf F : Nat → Prop) (vp : Value) (r : Dk) (w' : World) : Prop :=
  ∃ (s' f' : Nat) (Ms' Mf' F' : Nat → Prop) (c' : Nat → Nat) (vp' : Value) (xs' : List Value), IE w' x s' f' Ms' Mf' F' c' r vp' xs' ∧ Ch (mIE x s f Ms Mf vp) w w' ∧ (∀ y, mIE x s' f' Ms' Mf' vp' y → mIE x s f Ms Mf vp y ∨ w.heap.size ≤ y) ∧ (∀ y, F' y → F y ∨ mIE x s f Ms Mf vp y ∨ w.heap.size ≤ y)
theorem IE.same {w w' : World} {x s f : Nat} {Ms Mf F : Nat → Prop} {c : Nat → Nat} {d : Dk} {vp : Value} {xs : List Value} (h : IE w x s f Ms Mf F c d vp xs) (hc : Ch nob w w') : LfE w x s f Ms Mf F vp d w' :=
  ⟨s, f, Ms, Mf, F, c, vp, xs, h.ch hc, hc.weaken (fun _ _ e => e.elim), fun _ e => .inl e, fun _ e => .inl e⟩
set_option maxRecDepth 100000 in
set_option maxHeartbeats 8000000 in
theorem dom_e (x s f : Nat) (Ms Mf F G : Nat → Prop) (c : Nat → Nat) (d : Dk) (vp : Value) (xs : List Value) (a p : Ac) (va : Value) (w : World) (h : IE w x s f Ms Mf F c d vp xs) (hs : DkSm d) (ha : AcSm a) (hk : 0 ≤ a.k ∧ a.k ≤ 3) (hp0 : p = nrmA a) (hva : Rd w G va (bys p.b)) (hG : ∀ y, G y → y ≠ x) :
    Calls Tryd.prog 23 #[.pointer (some ⟨x, 0, none⟩), thV p va] w fun e w' => e = .returned (.int .i64 (doF d a).2) ∧ LfE w x s f Ms Mf F vp (doF d a).1 w' := by
  obtain ⟨Aa, ca, rfl⟩ := hva.shape
  have hp : AcSm p := by rw [hp0]; exact nrm_sm ha
  have hkp : p.k = a.k := by rw [hp0]; exact nrm_k a
  have hrf : refF d p = refF d a := by rw [hp0]; exact ref_nrm d a
  have Hp := hid hp0
  clear hp0
  obtain ⟨R, hR⟩ : ∃ R, R = doF d a := ⟨_, rfl⟩
  rw [← hR]
  have HR := hid hR
  clear hR
  unfold thV
  have b0 := Blk.new' w 60 (apL p (.slice Aa p.b.length ca))
  have hB0 : Below w.heap.size w (w.alloc (.cells (apL p (.slice Aa p.b.length ca)).toArray 60)) := (Below.refl _ _).alloc (Nat.le_refl _) _
  obtain ⟨w0, hw0⟩ : ∃ u, u = w.alloc (.cells (apL p (.slice Aa p.b.length ca)).toArray 60) := ⟨_, rfl⟩
  rw [← hw0] at b0 hB0
  have h0 := h.below hB0
  have c5 := h0.hb.cellAt 5 _ rfl
  have H0 := hid h0
  have Hh := hid h
  clear h0
  cases hd : d.down with
  | true =>
    rw [hd] at c5
    have Hdo : Hid (R = (d, 14)) := hid (by rw [HR.out]; exact do_dn hk hd)
    clear hd hkp h
    rw [hw0] at c5
    unfold apL at c5
    go_enter Tryd.func23, Tryd.ntmps23
    go_wp2
    go_ret
    rw [Hdo.out]
    exact ⟨by rfl, Hh.out.same (by rw [hw0] at hB0; exact .of_below hB0)⟩
  | false =>
    rw [hd] at c5
    have Hdo : Hid (R = if refF d a = 0 then pushF d a else (d, refF d a)) := hid (by rw [HR.out]; exact do_ref hk hd)
    have Hd := hid hd
    clear hd hkp h
    rw [hw0] at c5
    unfold apL at c5
    have b0' := b0
    rw [hw0] at b0'
    unfold apL at b0'
    go_enter Tryd.func23, Tryd.ntmps23
    go_wp2_with (first | (refine wp_ld 60 (.tmp 3) rfl rfl rfl b0'.whole Tryd.underlying60 rfl sizeTh ?_) | fail)
    change Calls _ _ _ (w.alloc (.cells (apL p (.slice Aa p.b.length ca)).toArray 60)) _
    rw [← hw0]
    clear hw0 c5 b0'
    obtain ⟨g, hg⟩ : ∃ g, g = w.heap.size := ⟨_, rfl⟩
    rw [← hg] at b0 ⊢
    have hgw : w.heap.size ≤ g ∧ g < w0.heap.size := ⟨by omega, b0.lt⟩
    clear hg
    refine (refusal_e x s f vp Mf d p Aa ca _ H0.out.hb H0.out.mf.fms hs hp.nn hp.b).mono ?_
    rintro e w1 ⟨rfl, hB1⟩
    rw [hrf]
    by_cases hr0 : refF d a = 0
    · have Hdo2 : Hid (R = pushF d a) := hid (by rw [Hdo.out, if_pos hr0])
      have Hok : Hid (PdOk a) := hid (ref_ok hk ha hr0)
      rw [hr0]
      have hB1w := hB0.trans (hB1.mono hB0.size)
      have H1 := hid (H0.out.below hB1)
      have b1 := b0.below hB1
      have hva1 := hva.below hB1w
      have hgx : g ≠ x := by have := Hh.out.hb.lt; omega
      have hz1 := hB1w.size
      clear hr0 hrf Hdo b0 hB0 hva H0
      go_wp2_with (fail)
      refine (blows_e x s f vp d _ H1.out.hb hs.f Hd.out).mono ?_
      rintro e w2 ⟨rfl, hb2, hC2⟩
      obtain ⟨B, hBu⟩ : ∃ B, B = (burnF d).1 := ⟨_, rfl⟩
      have hpu := push_dn d a
      have hB2d : B.down = true → B.fuse = 0 := by rw [hBu]; exact burn_down Hh.out.dn
      have H2 : Hid (IE w2 x s f Ms Mf F c B vp xs) := hid (by rw [hBu] at *; exact H1.out.blk hb2 hC2 rfl rfl hB2d)
      have HBn : Hid (nowF { B with pend := d.pend ++ [a] } = doneF (nowF d) a) := hid (by rw [hBu]; exact now_push d a)
      have HBs : Hid (B.syn = d.syn) := hid (by rw [hBu]; rfl)
      have HBp : Hid (B.pend = d.pend) := hid (by rw [hBu]; rfl)
      have HBm : Hid (nowF B = nowF d) := hid (by rw [hBu]; rfl)
      have HBd : Hid (B.down = true → B.fuse = 0) := hid hB2d
      rw [← hBu] at hpu ⊢
      have hC2w : Ch (mIE x s f Ms Mf vp) w w2 := ((Ch.refl _ w).belowR hB1w).trans (hC2.weaken (fun k _ e => .inl e))
      have b2 := b1.ch hC2 hgx
      have hva2 := hva1.ch hC2 (fun y e e2 => hG y e e2)
      have Hpu0 := hid hpu
      clear hBu hpu hB2d hb2 hC2 b1 hva1 H1 hB1 hB1w
      cases hdB : B.down with
      | true =>
        have Hpu : Hid (R = (B, 14)) := hid (by rw [Hdo2.out, Hpu0.out, if_pos hdB])
        clear hdB
        go_wp2
        go_ret
        rw [Hpu.out]
        exact ⟨rfl, s, f, Ms, Mf, F, c, vp, xs, H2.out, hC2w, fun _ e => .inl e, fun _ e => .inl e⟩
      | false =>
        have Hpu : Hid (R = ({ B with pend := d.pend ++ [a] }, 0)) := hid (by rw [Hdo2.out, Hpu0.out, if_neg (by rw [hdB]; simp)])
        clear hdB Hpu0 Hdo2
        go_wp2_with (first | (refine wp_ld 60 (.tmp 3) rfl rfl rfl b2.whole Tryd.underlying60 rfl sizeTh ?_) | fail)
        have hp24 : p.n.size ≤ 24 ∧ p.t.size ≤ 24 := by rw [Hp.out]; exact ⟨by rw [nrm_n]; exact Hok.out.n, Hok.out.t⟩
        refine (tcopied_e p G _ _ hva2 hp.b hp.nn hp.tt (by omega) (by omega)).mono ?_
        rintro e w3 ⟨v3, rfl, ho3, hB3⟩
        obtain ⟨A3, c3, rfl⟩ := own_shape8 ho3
        obtain ⟨F3, hF3⟩ : ∃ F3 : Nat → Prop, F3 = fun y => w2.heap.size ≤ y ∧ y < w3.heap.size := ⟨_, rfl⟩
        have hF3e : ∀ y, F3 y ↔ w2.heap.size ≤ y ∧ y < w3.heap.size := fun y => by rw [hF3]
        have hz2 := hC2w.size
        have hg2 := b2.lt
        have hr3 : Rd w3 F3 (.slice A3 p.b.length c3) (bys p.b) := Rd.of_own' ho3 (fun y h1 h2 => (hF3e y).2 ⟨h1, h2⟩)
        have b3 := b2.below hB3
        clear hF3 ho3
        go_wp2_with (refine wp_st 60 (.tmp 3) (.tmp 21) rfl rfl rfl (f := 0) rfl (l := apL p (.slice A3 p.b.length c3)) rfl b3 (by simp [apL]) sizeTh (one_ap _ _ _ _) ?_; intro w40 hb40 hG40; refine wp_stop ?_)
        have hb40 : Blk w40 g 60 (apL p (.slice A3 p.b.length c3)) := hb40
        obtain ⟨w4, hw4⟩ : ∃ u, u = w40.drew := ⟨_, rfl⟩
        have hz3 := hB3.size
        have hz40 := hG40.size
        have hzw4 : w4.heap.size = w40.heap.size := by rw [hw4]; rfl
        have hk4 : ∀ y, y < w3.heap.size → y ≠ g → w4.heap[y]? = w3.heap[y]? := fun y hy hn => by rw [hw4]; exact hG40.block y hy (fun e => by injection e with e; exact hn e)
        have hbd := Hh.out.bd
        have hI4 : IE w4 x s f Ms Mf F c B vp xs := (H2.out.below hB3).keep (fun y hy e => hk4 y hy (fun e2 => by have := hbd y e; omega)) (by omega)
        have hv3 : Rd w4 F3 (.slice A3 p.b.length c3) (bys p.b) := hr3.keep (fun y hy e => ⟨e, hk4 y hy (fun e2 => by have := (hF3e y).1 e; omega)⟩)
        have b4 : Blk w4 g 60 (apL p (.slice A3 p.b.length c3)) := by rw [hw4]; exact hb40.drew
        have hC4 : Ch (mIE x s f Ms Mf vp) w w4 := by rw [hw4]; exact ((hC2w.belowR hB3).grow hG40 (fun k hk => .inr (by injection hk with hk; omega))).drew
        have hb := hI4.hb
        have hms : FO Tryd.prog 9 5 w4 Ms anyN s d.syn := by have := hI4.ms; rw [HBs.out] at this; exact this
        have hmf : FO Tryd.prog 9 5 w4 Mf anyN f (nowF d) := by have := hI4.mf; rw [HBm.out] at this; exact this
        have ho : w4.ownsRow 0 60 4 vp d.pend.length xs := by have := hI4.ho; rw [HBp.out] at this; exact this
        have hx : WdX w4 F apD (d.pend.map nrmA) xs := by have := hI4.hx; rw [HBp.out] at this; exact this
        have d2 := hb.cellAt 3 _ rfl
        have d2' := (hb.below ((Below.refl _ _).alloc (Nat.le_refl _) (.cells (apL p (.slice A3 p.b.length c3)).toArray 60))).cellAt 3 _ rfl
        have hrg := b4.whole
        have hvl : ∀ y, vp.ownBlock = some y → y < w.heap.size := fun y e => (Hh.out.ho.lt y e).2
        have HF3w : Hid (∀ y, F3 y → w.heap.size ≤ y ∧ y < w4.heap.size) := hid (fun y e => by have := (hF3e y).1 e; omega)
        have hzw : w.heap.size ≤ w4.heap.size := by omega
        have hg4 : g < w4.heap.size := b4.lt
        have hxw : x < w.heap.size := Hh.out.hb.lt
        have hnb := now_bd d.pend d.syn
        have hsn := hs.n
        have hst := hs.t
        have hLn : (nowF d).length < maxLen := by unfold nowF; simp only [maxLen]; omega
        have hfl : ((findF (nowF d) p.n).getD []).length ≤ 1000000000 := by
          have := find_tot (nowF d) p.n
          unfold nowF at this ⊢
          omega
        clear hnb hst hF3e hr3 hb40 hG40 hk4 hbd hI4 hB3 b3 b2 hva2 hC2w H2 hz3 hz40 hzw4 hz2 hg2 hp24
        refine wp_go ?_
        go_upto_region 11 with (fail)
        refine wp_region_noPanic ?_
        refine wp_region_any (by kernel_rfl) ?_
        change wpAny _ _ _ _ _ _ _ (World.drew _)
        rw [← hw4]
        clear hw4
        refine wpAny_take (i := 0) (oi := ⟨some 22, _, _, _, _, none⟩) (v := ?_) rfl (by kernel_rfl) (by kernel_rfl) (by kernel_rfl) (fun _ _ _ h => h) (Or.inl ⟨by rfl, ?_⟩) ?_
        rotate_left
        · intro w; go_simp; try with_reducible rfl
        try simp only [Act.put, List.setIfInBounds_toArray, List.set_cons_zero, List.set_cons_succ]
        refine wpAny_take (i := 1) (oi := ⟨some 23, _, _, _, _, none⟩) (v := ?_) rfl (by kernel_rfl) (by kernel_rfl) (by kernel_rfl) (fun _ _ _ h => h) (Or.inl ⟨by rfl, ?_⟩) ?_
        rotate_left
        · intro w; go_simp; try with_reducible rfl
        try simp only [Act.put, List.setIfInBounds_toArray, List.set_cons_zero, List.set_cons_succ]
        refine wpAny_take (i := 2) (oi := ⟨some 24, _, _, _, _, none⟩) (v := ?_) rfl (by kernel_rfl) (by kernel_rfl) (by kernel_rfl) (fun _ _ _ h => h) (Or.inl ⟨by rfl, ?_⟩) ?_
        rotate_left
        · intro w; go_simp; try with_reducible rfl
        try simp only [Act.put, List.setIfInBounds_toArray, List.set_cons_zero, List.set_cons_succ]
        refine wpAny_take (i := 3) (oi := ⟨some 25, _, _, _, _, none⟩) (v := ?_) rfl (by kernel_rfl) (by kernel_rfl) (by kernel_rfl) (fun _ _ _ h => h) (Or.inl ⟨by rfl, ?_⟩) ?_
        rotate_left
        · intro w; go_simp; try with_reducible rfl
        try simp only [Act.put, List.setIfInBounds_toArray, List.set_cons_zero, List.set_cons_succ]
        refine wpAny_ready (rs := [4, 5]) (by kernel_rfl) (by simp) ?_
        refine AllReady.cons (o := ⟨some 26, .load 55 (.tmp 25), _, _, _, none⟩) rfl (fun K hK => ?_) ?_
        · refine step_ld1 55 (.tmp 25) (by rfl) (by rfl) (by rfl) d2 Tryd.isAgg55 ?_
          refine hK _ _ ?_
          clear hK K
          try simp only [Act.put, List.setIfInBounds_toArray, List.set_cons_zero, List.set_cons_succ]
          refine wpAny_ready (rs := [5]) (by kernel_rfl) (by simp) ?_
          refine AllReady.cons (o := ⟨some 27, .load 60 (.tmp 3), _, _, _, none⟩) rfl (fun K hK => ?_) AllReady.nil
          refine step_ld 60 (.tmp 3) (by rfl) (by rfl) (by rfl) hrg Tryd.underlying60 rfl sizeTh ?_
          refine hK _ _ ?_
          clear hK K
          try simp only [Act.put, List.setIfInBounds_toArray, List.set_cons_zero, List.set_cons_succ]
          refine wpAny_ready (rs := [6]) (by kernel_rfl) (by simp) ?_
          refine AllReady.cons (o := ⟨some 28, .buildSlice _ _ _, _, _, _, none⟩) rfl (fun K hK => ?_) AllReady.nil
          refine step_bsW (.tmp 27) slTh (by rfl) (by rfl) (us := apL p (.slice A3 p.b.length c3)) (by rfl) rfl ?_
          refine hK _ _ ?_
          clear hK K
          try simp only [Act.put, List.setIfInBounds_toArray, List.set_cons_zero, List.set_cons_succ]
          refine wpAny_ready (rs := [7]) (by kernel_rfl) (by simp) ?_
          refine AllReady.cons (o := ⟨some 29, .call _, _, _, _, none⟩) rfl (fun K hK => ?_) AllReady.nil
          refine step_appW5 (.tmp 26) (.tmp 28) slTh (by rfl) (by rfl) (us := apL p (.slice A3 p.b.length c3)) rfl (one_ap p _ _ _) (base := 0) (by rfl) ho (by rfl) (by simp only [maxLen]; omega) (by omega) (Nat.zero_le _) ?_
          intro v6 w6 ho6 hG6 hd6
          obtain ⟨A6, c6, rfl⟩ := own_shape8 ho6
          have b6 := hb.keep (hG6.block _ hb.lt (fun e => by have := Hh.out.cv x e.symm; have := Hh.out.cx; omega))
          refine hK _ _ ?_
          clear hK K
          try simp only [Act.put, List.setIfInBounds_toArray, List.set_cons_zero, List.set_cons_succ]
          refine wpAny_take (i := 8) (oi := ⟨some 30, _, _, _, _, none⟩) (v := ?_) rfl (by kernel_rfl) (by kernel_rfl) (by kernel_rfl) (fun _ _ _ h => h) (Or.inl ⟨by rfl, ?_⟩) ?_
          rotate_left
          · intro w; go_simp; try with_reducible rfl
          try simp only [Act.put, List.setIfInBounds_toArray, List.set_cons_zero, List.set_cons_succ]
          refine wpAny_take (i := 9) (oi := ⟨some 31, _, _, _, _, none⟩) (v := ?_) rfl (by kernel_rfl) (by kernel_rfl) (by kernel_rfl) (fun _ _ _ h => h) (Or.inl ⟨by rfl, ?_⟩) ?_
          rotate_left
          · intro w; go_simp; try with_reducible rfl
          try simp only [Act.put, List.setIfInBounds_toArray, List.set_cons_zero, List.set_cons_succ]
          refine wpAny_ready (rs := [10]) (by kernel_rfl) (by simp) ?_
          refine AllReady.cons (o := ⟨none, .store _ _ _, _, _, _, none⟩) rfl (fun K hK => ?_) AllReady.nil
          refine step_st1 55 (.tmp 31) (.tmp 29) (by rfl) (by rfl) (by rfl) (f := 3) (by rfl) (v := .slice A6 (d.pend.length + 1) c6) (by rfl) b6 (by simp [dcZ]) sizeSlTh rfl rfl ?_
          intro w7 b7 hG7
          refine hK _ _ ?_
          clear hK K
          try simp only [Act.put, List.setIfInBounds_toArray, List.set_cons_zero, List.set_cons_succ]
          refine wpAny_done (by kernel_rfl) ?_ _
          refine NoPanic.normal ?_
          have hvq : ∀ y, (Value.slice A6 (d.pend.length + 1) c6).ownBlock = some y → vp.ownBlock = some y ∨ (w4.heap.size ≤ y ∧ y < w6.heap.size) := fun y e => by
            rcases hd6 with h | ⟨q, h, hq⟩
            · exact .inl (h.symm.trans e)
            · rw [h] at e
              injection e with e
              exact .inr ⟨by omega, by have := (ho6.lt y (by rw [h, e])).2; omega⟩
          have hz6 := hG6.size
          have hz7 := hG7.size
          have hk7 : ∀ y, y < w4.heap.size → y ≠ x → vp.ownBlock ≠ some y → w7.heap[y]? = w4.heap[y]? := fun y hy hx2 hn => (hG7.block y (by omega) (by intro e; injection e with e; exact hx2 e)).trans (hG6.block y hy (fun e => hn e.symm))
          have hkc : ∀ y, y < w.heap.size → c y ≠ 0 → c y ≠ 5 → w7.heap[y]? = w4.heap[y]? := fun y hy h0 h5 => hk7 y (by omega) (fun e => h0 (by rw [e]; exact Hh.out.cx)) (fun e => h5 (Hh.out.cv y e))
          replace b7 : Blk w7 x 57 (dcZ { B with pend := d.pend ++ [a] } s f (.slice A6 (d.pend.length + 1) c6)) := b7
          have ho7 := own_keep10 ho6 (fun k hk he => hG7.block k hk (by intro e; injection e with e; rcases hvq k he with h2 | h2; (have := Hh.out.cv k h2; have := Hh.out.cx; rw [← e] at this; omega); omega))
          have hms7 := hms.keep (hkc s Hh.out.ms.lt (by have := Hh.out.cs; omega) (by have := Hh.out.cs; omega)) (fun y _ e => hkc y (Hh.out.cm y e).2 (by have := (Hh.out.cm y e).1; omega) (by have := (Hh.out.cm y e).1; omega))
          have hmf7 := hmf.keep (hkc f Hh.out.mf.lt (by have := Hh.out.cf; omega) (by have := Hh.out.cf; omega)) (fun y _ e => hkc y (Hh.out.cn y e).2 (by have := (Hh.out.cn y e).1; omega) (by have := (Hh.out.cn y e).1; omega))
          have hxF : ∀ y, y < w4.heap.size → F3 y → w7.heap[y]? = w4.heap[y]? := fun y hy e => hk7 y hy (by have := (HF3w.out y e).1; omega) (fun e2 => by have := hvl y e2; have := (HF3w.out y e).1; omega)
          have hx7 := (hx.keep (F' := fun y => F y ∨ F3 y) (fun y hy e => ⟨.inl e, hkc y (Hh.out.cF y e).2 (by have := (Hh.out.cF y e).1; omega) (by have := (Hh.out.cF y e).1; omega)⟩)).snoc (ap_mk (hv3.keep (F' := fun y => F y ∨ F3 y) (fun y hy e => ⟨.inr e, hxF y hy e⟩)))
          have hx7 : WdX w7 (fun y => F y ∨ F3 y) apD ((d.pend ++ [a]).map nrmA) _ := (by rw [List.map_append, List.map_cons, List.map_nil, ← Hp.out]; exact hx7)
          have hv7 := hv3.keep (F' := F3) (fun y hy e => ⟨e, hxF y hy e⟩)
          have b4' := b4.keep (hk7 g hg4 hgx (fun e => by have := hvl g e; omega))
          have hC7 : Ch (mIE x s f Ms Mf vp) w w7 := (hC4.grow hG6 (fun k hk => .inl (.inr (.inr (.inr (.inr (.inr hk))))))).grow hG7 (fun k hk => .inl (.inl (by injection hk with hk; exact hk.symm)))
          obtain ⟨W7, hW7⟩ : ∃ W, W = w7.heap.size := ⟨_, rfl⟩
          have HF3 : Hid (∀ y, F3 y → ¬ Mf y ∧ y ≠ f) := hid fun y e => ⟨fun e2 => by have := (HF3w.out y e).1; have := (Hh.out.cn y e2).2; omega, fun e2 => by have := (HF3w.out y e).1; have := Hh.out.mf.lt; omega⟩
          have HX7 : Hid (FX w7.drew Mf f (nowF d)) := hid ⟨hmf7.keep rfl (fun _ _ _ => rfl), Hh.out.fxf.2.1, fun y e => by show y < w7.heap.size; have := (Hh.out.cn y e).2; omega⟩
          have HV7 : Hid (Rd w7.drew F3 (.slice A3 p.b.length c3) (bys p.b)) := hid hv7.drew
          have HFc : Hid (∀ W, Ch (gX f Mf) w7 W → W.cell? ⟨x, 2, none⟩ = some (.map (some f))) := hid fun W hc => (b7.ch hc (by rintro (e | e); (have := Hh.out.cx; have := Hh.out.cf; rw [e] at *; omega); (have := Hh.out.cx; have := (Hh.out.cn x e).1; omega))).cellAt 2 _ rfl
          have HA : Hid (∀ W, Ch (gX f Mf) w7 W → W.rangeAt g 0 (apL p (.slice A3 p.b.length c3))) := hid fun W hc => (b4'.ch hc (by rintro (e | e); (have := Hh.out.mf.lt; omega); (have := (Hh.out.cn g e).2; omega))).whole
          have H7 := hid (And.intro b7 (And.intro hms7 (And.intro ho7 (And.intro hx7 (And.intro hC7 hvq)))))
          have hzz : w.heap.size ≤ w4.heap.size ∧ w4.heap.size ≤ w6.heap.size ∧ w6.heap.size ≤ W7 ∧ W7 = w7.heap.size := ⟨by omega, hz6, by omega, hW7⟩
          clear b7 hms7 hmf7 ho7 hx7 hC7 hv7 b4' hW7 hz6 hz7 hk7 hkc hxF hvq hb hms hmf ho hx hv3 b4 ho6 hG6 hG7 d2 d2' hd6 hC4 hrg b6
          go_upto_region 12 with (fail)
          refine wp_region_noPanic ?_
          refine wp_region_held_drew (S := Ch (gX f Mf) w7) (by kernel_rfl) ((Ch.refl _ _).drew) (fun hHeld => ?_)
          refine wpAnyH_take (i := 0) (oi := ⟨some 32, _, _, _, _, none⟩) (v := ?_) rfl (by kernel_rfl) (by kernel_rfl) (by kernel_rfl) (fun _ _ _ h => h) (Or.inl ⟨by rfl, ?_⟩) (by assumption) ?_
          rotate_left
          · intro w hSw; go_simp; try with_reducible rfl
          try simp only [Act.put, List.setIfInBounds_toArray, List.set_cons_zero, List.set_cons_succ]
          refine wpAnyH_take (i := 1) (oi := ⟨some 33, _, _, _, _, none⟩) (v := ?_) rfl (by kernel_rfl) (by kernel_rfl) (by kernel_rfl) (fun _ _ _ h => h) (Or.inl ⟨by rfl, ?_⟩) (by assumption) ?_
          rotate_left
          · intro w hSw; go_simp; try with_reducible rfl
          try simp only [Act.put, List.setIfInBounds_toArray, List.set_cons_zero, List.set_cons_succ]
          refine wpAnyH_take (i := 2) (oi := ⟨some 34, _, _, _, _, none⟩) (v := ?_) rfl (by kernel_rfl) (by kernel_rfl) (by kernel_rfl) (fun _ _ _ h => h) (Or.inl ⟨by rfl, ?_⟩) (by assumption) ?_
          rotate_left
          · intro w hSw; go_simp; try with_reducible rfl
          try simp only [Act.put, List.setIfInBounds_toArray, List.set_cons_zero, List.set_cons_succ]
          refine wpAnyH_take (i := 3) (oi := ⟨some 35, _, _, _, _, none⟩) (v := ?_) rfl (by kernel_rfl) (by kernel_rfl) (by kernel_rfl) (fun _ _ _ h => h) (Or.inl ⟨by rfl, ?_⟩) (by assumption) ?_
          rotate_left
          · intro w hSw; have hcw := HFc.out w hSw; go_simp; try with_reducible rfl
          try simp only [Act.put, List.setIfInBounds_toArray, List.set_cons_zero, List.set_cons_succ]
          refine wpAnyH_take (i := 4) (oi := ⟨some 36, .load 60 (.tmp 3), _, _, _, none⟩) (v := _) rfl (by kernel_rfl) (by kernel_rfl) (by kernel_rfl) (fun _ _ _ h => h) (yieldsIf_load_mid (by rfl) 60 (.tmp 3) (by rfl) _ (0) (by rfl) _ _ (fun _ hs => HA.out _ hs) Tryd.underlying60 rfl (sizeTh)) (by assumption) ?_
          try simp only [Act.put, List.setIfInBounds_toArray, List.set_cons_zero, List.set_cons_succ]
          refine wpAnyH_ready (rs := [5]) (by kernel_rfl) (by simp) ?_
          refine AllReadyH.cons (o := ⟨some 37, _, _, _, _, none⟩) rfl (fun K hK => ?_) AllReadyH.nil
          go_simp
          refine (do_e f (nowF d) Mf F3 p _ _ HX7.out HF3.out HV7.out hLn hp.nn hp.tt hp.b hfl).mono ?_
          rintro e w8 ⟨rfl, ⟨Mf', hX8, hMf'⟩, hC8⟩
          refine hK.out _ _ (hHeld.trans hC8) (fun hHeld => ?_)
          clear hK K
          try simp only [Act.put, List.setIfInBounds_toArray, List.set_cons_zero, List.set_cons_succ]
          refine wpAnyH_done (by kernel_rfl) ?_ _
          refine NoPanic.normal ?_
          have hC8q : Ch (gX f Mf) w7 w8 := hHeld
          obtain ⟨b7, hms7, ho7, hx7, hC7, hvq⟩ := H7.out
          obtain ⟨z1, z2, z3, z4⟩ := hzz
          have hz8 := hC8q.size
          have hk8 : ∀ y, y < w7.heap.size → y ≠ f → ¬ Mf y → w8.heap[y]? = w7.heap[y]? := fun y hy h1 h2 => hC8q.block y hy (by rintro (e | e); exact h1 e; exact h2 e)
          have hMflt : ∀ y, Mf y → y < w.heap.size := fun y e => (Hh.out.cn y e).2
          have hflt := Hh.out.mf.lt
          have hkc8 : ∀ y, y < w.heap.size → c y ≠ 2 → c y ≠ 4 → w8.heap[y]? = w7.heap[y]? := fun y hy h1 h2 => hk8 y (by omega) (fun e => h1 (by rw [e]; exact Hh.out.cf)) (fun e => h2 (Hh.out.cn y e).1)
          have hnew : ∀ y, y < w7.heap.size → w.heap.size ≤ y → w8.heap[y]? = w7.heap[y]? := fun y hy h1 => hk8 y hy (by omega) (fun e => by have := hMflt y e; omega)
          have hpl : ({ B with pend := d.pend ++ [a] } : Dk).pend.length = d.pend.length + 1 := by simp
          have hcc : ∀ y, y < w.heap.size → cN c w.heap.size w4.heap.size W7 y = c y := fun y hy => by unfold cN; rw [if_pos hy]
          have hf8 : FO Tryd.prog 9 5 w8 Mf' anyN f (nowF { B with pend := d.pend ++ [a] }) := by
            have e1 := hX8.1.perm (doM_perm (nowF d) p)
            rw [show doneF (nowF d) p = doneF (nowF d) a from by rw [Hp.out]; exact done_nrm _ _, ← HBn.out] at e1
            exact e1
          have hI : IE w8 x s f Ms Mf' (fun y => F y ∨ F3 y) (cN c w.heap.size w4.heap.size W7) { B with pend := d.pend ++ [a] } (.slice A6 (d.pend.length + 1) c6) _ := {
            hb := b7.keep (hkc8 x Hh.out.hb.lt (by have := Hh.out.cx; omega) (by have := Hh.out.cx; omega))
            ms := by
              show FO Tryd.prog 9 5 w8 Ms anyN s B.syn
              rw [HBs.out]
              exact hms7.keep (hkc8 s Hh.out.ms.lt (by have := Hh.out.cs; omega) (by have := Hh.out.cs; omega)) (fun y _ e => hkc8 y (Hh.out.cm y e).2 (by have := (Hh.out.cm y e).1; omega) (by have := (Hh.out.cm y e).1; omega))
            mf := hf8
            ho := by
              rw [hpl]
              exact own_keep10 ho7 (fun y hy e => by
                rcases hvq y e with e2 | e2
                · exact hkc8 y (hvl y e2) (by have := Hh.out.cv y e2; omega) (by have := Hh.out.cv y e2; omega)
                · exact hnew y hy (by omega))
            hx := hx7.keep (fun y hy e => ⟨e, by
              rcases e with e | e
              · exact hkc8 y (Hh.out.cF y e).2 (by have := (Hh.out.cF y e).1; omega) (by have := (Hh.out.cF y e).1; omega)
              · exact hnew y hy (HF3w.out y e).1⟩)
            cx := by rw [hcc x Hh.out.hb.lt]; exact Hh.out.cx
            cs := by rw [hcc s Hh.out.ms.lt]; exact Hh.out.cs
            cf := by rw [hcc f hflt]; exact Hh.out.cf
            cm := fun y e => ⟨by rw [hcc y (Hh.out.cm y e).2]; exact (Hh.out.cm y e).1, by have := (Hh.out.cm y e).2; omega⟩
            cn := fun y e => ⟨by
              rcases hMf' y e with e2 | e2
              · rw [hcc y (hMflt y e2)]; exact (Hh.out.cn y e2).1
              · have e2 : w7.heap.size ≤ y := e2
                unfold cN
                rw [if_neg (by omega), if_neg (by omega), if_neg (by omega)], hX8.2.2 y e⟩
            cv := fun y e => by
              rcases hvq y e with e2 | e2
              · rw [hcc y (hvl y e2)]; exact Hh.out.cv y e2
              · unfold cN
                rw [if_neg (by omega), if_neg (by omega), if_pos (by omega)]
            cF := fun y e => by
              rcases e with e | e
              · exact ⟨by rw [hcc y (Hh.out.cF y e).2]; exact (Hh.out.cF y e).1, by have := (Hh.out.cF y e).2; omega⟩
              · have := HF3w.out y e
                exact ⟨by unfold cN; rw [if_neg (by omega), if_pos (by omega)], by omega⟩
            st := by rw [show ({ B with pend := d.pend ++ [a] } : Dk).syn = d.syn from HBs.out]; exact Hh.out.st
            dn := HBd.out
            nS := by rw [show ({ B with pend := d.pend ++ [a] } : Dk).syn = d.syn from HBs.out]; exact Hh.out.nS
            pd := fun b hb => by
              rcases List.mem_append.1 hb with e | e
              · exact Hh.out.pd b e
              · rw [List.mem_singleton.1 e]; exact Hok.out }
          have hC8w : Ch (mIE x s f Ms Mf vp) w w8 := hC7.trans (hC8q.weaken (fun y _ e => by rcases e with e | e; exact .inr (.inr (.inl e)); exact .inr (.inr (.inr (.inr (.inl e))))))
          have hM8 : ∀ y, mIE x s f Ms Mf' (.slice A6 (d.pend.length + 1) c6) y → mIE x s f Ms Mf vp y ∨ w.heap.size ≤ y := by
            rintro y (e | e | e | e | e | e)
            · exact .inl (.inl e)
            · exact .inl (.inr (.inl e))
            · exact .inl (.inr (.inr (.inl e)))
            · exact .inl (.inr (.inr (.inr (.inl e))))
            · rcases hMf' y e with e2 | e2
              · exact .inl (.inr (.inr (.inr (.inr (.inl e2)))))
              · have e2 : w7.heap.size ≤ y := e2
                exact .inr (by omega)
            · rcases hvq y e with e2 | e2
              · exact .inl (.inr (.inr (.inr (.inr (.inr e2)))))
              · exact .inr (by omega)
          have hF8 : ∀ y, (F y ∨ F3 y) → F y ∨ mIE x s f Ms Mf vp y ∨ w.heap.size ≤ y := by
            rintro y (e | e)
            · exact .inl e
            · exact .inr (.inr (HF3w.out y e).1)
          have HI := hid hI
          have HM8 := hid hM8
          have HF8 := hid hF8
          clear hI hM8 hF8 hX8 hMf' hC8 hC8q hHeld b7 hms7 ho7 hx7 hC7 hvq hk8 hkc8 hnew hcc hf8 HX7 HV7 HFc HA
          go_wp2
          go_ret
          rw [Hpu.out]
          exact ⟨rfl, s, f, Ms, Mf', _, _, _, _, HI.out, hC8w, HM8.out, HF8.out⟩
        refine AllReady.cons (o := ⟨some 27, .load 60 (.tmp 3), _, _, _, none⟩) rfl (fun K hK => ?_) AllReady.nil
        refine step_ld 60 (.tmp 3) (by rfl) (by rfl) (by rfl) hrg Tryd.underlying60 rfl sizeTh ?_
        refine hK _ _ ?_
        clear hK K
        try simp only [Act.put, List.setIfInBounds_toArray, List.set_cons_zero, List.set_cons_succ]
        refine wpAny_ready (rs := [4, 6]) (by kernel_rfl) (by simp) ?_
        refine AllReady.cons (o := ⟨some 26, .load 55 (.tmp 25), _, _, _, none⟩) rfl (fun K hK => ?_) ?_
        · refine step_ld1 55 (.tmp 25) (by rfl) (by rfl) (by rfl) d2 Tryd.isAgg55 ?_
          refine hK _ _ ?_
          clear hK K
          try simp only [Act.put, List.setIfInBounds_toArray, List.set_cons_zero, List.set_cons_succ]
          refine wpAny_ready (rs := [6]) (by kernel_rfl) (by simp) ?_
          refine AllReady.cons (o := ⟨some 28, .buildSlice _ _ _, _, _, _, none⟩) rfl (fun K hK => ?_) AllReady.nil
          refine step_bsW (.tmp 27) slTh (by rfl) (by rfl) (us := apL p (.slice A3 p.b.length c3)) (by rfl) rfl ?_
          refine hK _ _ ?_
          clear hK K
          try simp only [Act.put, List.setIfInBounds_toArray, List.set_cons_zero, List.set_cons_succ]
          refine wpAny_ready (rs := [7]) (by kernel_rfl) (by simp) ?_
          refine AllReady.cons (o := ⟨some 29, .call _, _, _, _, none⟩) rfl (fun K hK => ?_) AllReady.nil
          refine step_appW5 (.tmp 26) (.tmp 28) slTh (by rfl) (by rfl) (us := apL p (.slice A3 p.b.length c3)) rfl (one_ap p _ _ _) (base := 0) (by rfl) ho (by rfl) (by simp only [maxLen]; omega) (by omega) (Nat.zero_le _) ?_
          intro v6 w6 ho6 hG6 hd6
          obtain ⟨A6, c6, rfl⟩ := own_shape8 ho6
          have b6 := hb.keep (hG6.block _ hb.lt (fun e => by have := Hh.out.cv x e.symm; have := Hh.out.cx; omega))
          refine hK _ _ ?_
          clear hK K
          try simp only [Act.put, List.setIfInBounds_toArray, List.set_cons_zero, List.set_cons_succ]
          refine wpAny_take (i := 8) (oi := ⟨some 30, _, _, _, _, none⟩) (v := ?_) rfl (by kernel_rfl) (by kernel_rfl) (by kernel_rfl) (fun _ _ _ h => h) (Or.inl ⟨by rfl, ?_⟩) ?_
          rotate_left
          · intro w; go_simp; try with_reducible rfl
          try simp only [Act.put, List.setIfInBounds_toArray, List.set_cons_zero, List.set_cons_succ]
          refine wpAny_take (i := 9) (oi := ⟨some 31, _, _, _, _, none⟩) (v := ?_) rfl (by kernel_rfl) (by kernel_rfl) (by kernel_rfl) (fun _ _ _ h => h) (Or.inl ⟨by rfl, ?_⟩) ?_
          rotate_left
          · intro w; go_simp; try with_reducible rfl
          try simp only [Act.put, List.setIfInBounds_toArray, List.set_cons_zero, List.set_cons_succ]
          refine wpAny_ready (rs := [10]) (by kernel_rfl) (by simp) ?_
          refine AllReady.cons (o := ⟨none, .store _ _ _, _, _, _, none⟩) rfl (fun K hK => ?_) AllReady.nil
          refine step_st1 55 (.tmp 31) (.tmp 29) (by rfl) (by rfl) (by rfl) (f := 3) (by rfl) (v := .slice A6 (d.pend.length + 1) c6) (by rfl) b6 (by simp [dcZ]) sizeSlTh rfl rfl ?_
          intro w7 b7 hG7
          refine hK _ _ ?_
          clear hK K
          try simp only [Act.put, List.setIfInBounds_toArray, List.set_cons_zero, List.set_cons_succ]
          refine wpAny_done (by kernel_rfl) ?_ _
          refine NoPanic.normal ?_
          have hvq : ∀ y, (Value.slice A6 (d.pend.length + 1) c6).ownBlock = some y → vp.ownBlock = some y ∨ (w4.heap.size ≤ y ∧ y < w6.heap.size) := fun y e => by
            rcases hd6 with h | ⟨q, h, hq⟩
            · exact .inl (h.symm.trans e)
            · rw [h] at e
              injection e with e
              exact .inr ⟨by omega, by have := (ho6.lt y (by rw [h, e])).2; omega⟩
          have hz6 := hG6.size
          have hz7 := hG7.size
          have hk7 : ∀ y, y < w4.heap.size → y ≠ x → vp.ownBlock ≠ some y → w7.heap[y]? = w4.heap[y]? := fun y hy hx2 hn => (hG7.block y (by omega) (by intro e; injection e with e; exact hx2 e)).trans (hG6.block y hy (fun e => hn e.symm))
          have hkc : ∀ y, y < w.heap.size → c y ≠ 0 → c y ≠ 5 → w7.heap[y]? = w4.heap[y]? := fun y hy h0 h5 => hk7 y (by omega) (fun e => h0 (by rw [e]; exact Hh.out.cx)) (fun e => h5 (Hh.out.cv y e))
          replace b7 : Blk w7 x 57 (dcZ { B with pend := d.pend ++ [a] } s f (.slice A6 (d.pend.length + 1) c6)) := b7
          have ho7 := own_keep10 ho6 (fun k hk he => hG7.block k hk (by intro e; injection e with e; rcases hvq k he with h2 | h2; (have := Hh.out.cv k h2; have := Hh.out.cx; rw [← e] at this; omega); omega))
          have hms7 := hms.keep (hkc s Hh.out.ms.lt (by have := Hh.out.cs; omega) (by have := Hh.out.cs; omega)) (fun y _ e => hkc y (Hh.out.cm y e).2 (by have := (Hh.out.cm y e).1; omega) (by have := (Hh.out.cm y e).1; omega))
          have hmf7 := hmf.keep (hkc f Hh.out.mf.lt (by have := Hh.out.cf; omega) (by have := Hh.out.cf; omega)) (fun y _ e => hkc y (Hh.out.cn y e).2 (by have := (Hh.out.cn y e).1; omega) (by have := (Hh.out.cn y e).1; omega))
          have hxF : ∀ y, y < w4.heap.size → F3 y → w7.heap[y]? = w4.heap[y]? := fun y hy e => hk7 y hy (by have := (HF3w.out y e).1; omega) (fun e2 => by have := hvl y e2; have := (HF3w.out y e).1; omega)
          have hx7 := (hx.keep (F' := fun y => F y ∨ F3 y) (fun y hy e => ⟨.inl e, hkc y (Hh.out.cF y e).2 (by have := (Hh.out.cF y e).1; omega) (by have := (Hh.out.cF y e).1; omega)⟩)).snoc (ap_mk (hv3.keep (F' := fun y => F y ∨ F3 y) (fun y hy e => ⟨.inr e, hxF y hy e⟩)))
          have hx7 : WdX w7 (fun y => F y ∨ F3 y) apD ((d.pend ++ [a]).map nrmA) _ := (by rw [List.map_append, List.map_cons, List.map_nil, ← Hp.out]; exact hx7)
          have hv7 := hv3.keep (F' := F3) (fun y hy e => ⟨e, hxF y hy e⟩)
          have b4' := b4.keep (hk7 g hg4 hgx (fun e => by have := hvl g e; omega))
          have hC7 : Ch (mIE x s f Ms Mf vp) w w7 := (hC4.grow hG6 (fun k hk => .inl (.inr (.inr (.inr (.inr (.inr hk))))))).grow hG7 (fun k hk => .inl (.inl (by injection hk with hk; exact hk.symm)))
          obtain ⟨W7, hW7⟩ : ∃ W, W = w7.heap.size := ⟨_, rfl⟩
          have HF3 : Hid (∀ y, F3 y → ¬ Mf y ∧ y ≠ f) := hid fun y e => ⟨fun e2 => by have := (HF3w.out y e).1; have := (Hh.out.cn y e2).2; omega, fun e2 => by have := (HF3w.out y e).1; have := Hh.out.mf.lt; omega⟩
          have HX7 : Hid (FX w7.drew Mf f (nowF d)) := hid ⟨hmf7.keep rfl (fun _ _ _ => rfl), Hh.out.fxf.2.1, fun y e => by show y < w7.heap.size; have := (Hh.out.cn y e).2; omega⟩
          have HV7 : Hid (Rd w7.drew F3 (.slice A3 p.b.length c3) (bys p.b)) := hid hv7.drew
          have HFc : Hid (∀ W, Ch (gX f Mf) w7 W → W.cell? ⟨x, 2, none⟩ = some (.map (some f))) := hid fun W hc => (b7.ch hc (by rintro (e | e); (have := Hh.out.cx; have := Hh.out.cf; rw [e] at *; omega); (have := Hh.out.cx; have := (Hh.out.cn x e).1; omega))).cellAt 2 _ rfl
          have HA : Hid (∀ W, Ch (gX f Mf) w7 W → W.rangeAt g 0 (apL p (.slice A3 p.b.length c3))) := hid fun W hc => (b4'.ch hc (by rintro (e | e); (have := Hh.out.mf.lt; omega); (have := (Hh.out.cn g e).2; omega))).whole
          have H7 := hid (And.intro b7 (And.intro hms7 (And.intro ho7 (And.intro hx7 (And.intro hC7 hvq)))))
          have hzz : w.heap.size ≤ w4.heap.size ∧ w4.heap.size ≤ w6.heap.size ∧ w6.heap.size ≤ W7 ∧ W7 = w7.heap.size := ⟨by omega, hz6, by omega, hW7⟩
          clear b7 hms7 hmf7 ho7 hx7 hC7 hv7 b4' hW7 hz6 hz7 hk7 hkc hxF hvq hb hms hmf ho hx hv3 b4 ho6 hG6 hG7 d2 d2' hd6 hC4 hrg b6
          go_upto_region 12 with (fail)
          refine wp_region_noPanic ?_
          refine wp_region_held_drew (S := Ch (gX f Mf) w7) (by kernel_rfl) ((Ch.refl _ _).drew) (fun hHeld => ?_)
          refine wpAnyH_take (i := 0) (oi := ⟨some 32, _, _, _, _, none⟩) (v := ?_) rfl (by kernel_rfl) (by kernel_rfl) (by kernel_rfl) (fun _ _ _ h => h) (Or.inl ⟨by rfl, ?_⟩) (by assumption) ?_
          rotate_left
          · intro w hSw; go_simp; try with_reducible rfl
          try simp only [Act.put, List.setIfInBounds_toArray, List.set_cons_zero, List.set_cons_succ]
          refine wpAnyH_take (i := 1) (oi := ⟨some 33, _, _, _, _, none⟩) (v := ?_) rfl (by kernel_rfl) (by kernel_rfl) (by kernel_rfl) (fun _ _ _ h => h) (Or.inl ⟨by rfl, ?_⟩) (by assumption) ?_
          rotate_left
          · intro w hSw; go_simp; try with_reducible rfl
          try simp only [Act.put, List.setIfInBounds_toArray, List.set_cons_zero, List.set_cons_succ]
          refine wpAnyH_take (i := 2) (oi := ⟨some 34, _, _, _, _, none⟩) (v := ?_) rfl (by kernel_rfl) (by kernel_rfl) (by kernel_rfl) (fun _ _ _ h => h) (Or.inl ⟨by rfl, ?_⟩) (by assumption) ?_
          rotate_left
          · intro w hSw; go_simp; try with_reducible rfl
          try simp only [Act.put, List.setIfInBounds_toArray, List.set_cons_zero, List.set_cons_succ]
          refine wpAnyH_take (i := 3) (oi := ⟨some 35, _, _, _, _, none⟩) (v := ?_) rfl (by kernel_rfl) (by kernel_rfl) (by kernel_rfl) (fun _ _ _ h => h) (Or.inl ⟨by rfl, ?_⟩) (by assumption) ?_
          rotate_left
          · intro w hSw; have hcw := HFc.out w hSw; go_simp; try with_reducible rfl
          try simp only [Act.put, List.setIfInBounds_toArray, List.set_cons_zero, List.set_cons_succ]
          refine wpAnyH_take (i := 4) (oi := ⟨some 36, .load 60 (.tmp 3), _, _, _, none⟩) (v := _) rfl (by kernel_rfl) (by kernel_rfl) (by kernel_rfl) (fun _ _ _ h => h) (yieldsIf_load_mid (by rfl) 60 (.tmp 3) (by rfl) _ (0) (by rfl) _ _ (fun _ hs => HA.out _ hs) Tryd.underlying60 rfl (sizeTh)) (by assumption) ?_
          try simp only [Act.put, List.setIfInBounds_toArray, List.set_cons_zero, List.set_cons_succ]
          refine wpAnyH_ready (rs := [5]) (by kernel_rfl) (by simp) ?_
          refine AllReadyH.cons (o := ⟨some 37, _, _, _, _, none⟩) rfl (fun K hK => ?_) AllReadyH.nil
          go_simp
          refine (do_e f (nowF d) Mf F3 p _ _ HX7.out HF3.out HV7.out hLn hp.nn hp.tt hp.b hfl).mono ?_
          rintro e w8 ⟨rfl, ⟨Mf', hX8, hMf'⟩, hC8⟩
          refine hK.out _ _ (hHeld.trans hC8) (fun hHeld => ?_)
          clear hK K
          try simp only [Act.put, List.setIfInBounds_toArray, List.set_cons_zero, List.set_cons_succ]
          refine wpAnyH_done (by kernel_rfl) ?_ _
          refine NoPanic.normal ?_
          have hC8q : Ch (gX f Mf) w7 w8 := hHeld
          obtain ⟨b7, hms7, ho7, hx7, hC7, hvq⟩ := H7.out
          obtain ⟨z1, z2, z3, z4⟩ := hzz
          have hz8 := hC8q.size
          have hk8 : ∀ y, y < w7.heap.size → y ≠ f → ¬ Mf y → w8.heap[y]? = w7.heap[y]? := fun y hy h1 h2 => hC8q.block y hy (by rintro (e | e); exact h1 e; exact h2 e)
          have hMflt : ∀ y, Mf y → y < w.heap.size := fun y e => (Hh.out.cn y e).2
          have hflt := Hh.out.mf.lt
          have hkc8 : ∀ y, y < w.heap.size → c y ≠ 2 → c y ≠ 4 → w8.heap[y]? = w7.heap[y]? := fun y hy h1 h2 => hk8 y (by omega) (fun e => h1 (by rw [e]; exact Hh.out.cf)) (fun e => h2 (Hh.out.cn y e).1)
          have hnew : ∀ y, y < w7.heap.size → w.heap.size ≤ y → w8.heap[y]? = w7.heap[y]? := fun y hy h1 => hk8 y hy (by omega) (fun e => by have := hMflt y e; omega)
          have hpl : ({ B with pend := d.pend ++ [a] } : Dk).pend.length = d.pend.length + 1 := by simp
          have hcc : ∀ y, y < w.heap.size → cN c w.heap.size w4.heap.size W7 y = c y := fun y hy => by unfold cN; rw [if_pos hy]
          have hf8 : FO Tryd.prog 9 5 w8 Mf' anyN f (nowF { B with pend := d.pend ++ [a] }) := by
            have e1 := hX8.1.perm (doM_perm (nowF d) p)
            rw [show doneF (nowF d) p = doneF (nowF d) a from by rw [Hp.out]; exact done_nrm _ _, ← HBn.out] at e1
            exact e1
          have hI : IE w8 x s f Ms Mf' (fun y => F y ∨ F3 y) (cN c w.heap.size w4.heap.size W7) { B with pend := d.pend ++ [a] } (.slice A6 (d.pend.length + 1) c6) _ := {
            hb := b7.keep (hkc8 x Hh.out.hb.lt (by have := Hh.out.cx; omega) (by have := Hh.out.cx; omega))
            ms := by
              show FO Tryd.prog 9 5 w8 Ms anyN s B.syn
              rw [HBs.out]
              exact hms7.keep (hkc8 s Hh.out.ms.lt (by have := Hh.out.cs; omega) (by have := Hh.out.cs; omega)) (fun y _ e => hkc8 y (Hh.out.cm y e).2 (by have := (Hh.out.cm y e).1; omega) (by have := (Hh.out.cm y e).1; omega))
            mf := hf8
            ho := by
              rw [hpl]
              exact own_keep10 ho7 (fun y hy e => by
                rcases hvq y e with e2 | e2
                · exact hkc8 y (hvl y e2) (by have := Hh.out.cv y e2; omega) (by have := Hh.out.cv y e2; omega)
                · exact hnew y hy (by omega))
            hx := hx7.keep (fun y hy e => ⟨e, by
              rcases e with e | e
              · exact hkc8 y (Hh.out.cF y e).2 (by have := (Hh.out.cF y e).1; omega) (by have := (Hh.out.cF y e).1; omega)
              · exact hnew y hy (HF3w.out y e).1⟩)
            cx := by rw [hcc x Hh.out.hb.lt]; exact Hh.out.cx
            cs := by rw [hcc s Hh.out.ms.lt]; exact Hh.out.cs
            cf := by rw [hcc f hflt]; exact Hh.out.cf
            cm := fun y e => ⟨by rw [hcc y (Hh.out.cm y e).2]; exact (Hh.out.cm y e).1, by have := (Hh.out.cm y e).2; omega⟩
            cn := fun y e => ⟨by
              rcases hMf' y e with e2 | e2
              · rw [hcc y (hMflt y e2)]; exact (Hh.out.cn y e2).1
              · have e2 : w7.heap.size ≤ y := e2
                unfold cN
                rw [if_neg (by omega), if_neg (by omega), if_neg (by omega)], hX8.2.2 y e⟩
            cv := fun y e => by
              rcases hvq y e with e2 | e2
              · rw [hcc y (hvl y e2)]; exact Hh.out.cv y e2
              · unfold cN
                rw [if_neg (by omega), if_neg (by omega), if_pos (by omega)]
            cF := fun y e => by
              rcases e with e | e
              · exact ⟨by rw [hcc y (Hh.out.cF y e).2]; exact (Hh.out.cF y e).1, by have := (Hh.out.cF y e).2; omega⟩
              · have := HF3w.out y e
                exact ⟨by unfold cN; rw [if_neg (by omega), if_pos (by omega)], by omega⟩
            st := by rw [show ({ B with pend := d.pend ++ [a] } : Dk).syn = d.syn from HBs.out]; exact Hh.out.st
            dn := HBd.out
            nS := by rw [show ({ B with pend := d.pend ++ [a] } : Dk).syn = d.syn from HBs.out]; exact Hh.out.nS
            pd := fun b hb => by
              rcases List.mem_append.1 hb with e | e
              · exact Hh.out.pd b e
              · rw [List.mem_singleton.1 e]; exact Hok.out }
          have hC8w : Ch (mIE x s f Ms Mf vp) w w8 := hC7.trans (hC8q.weaken (fun y _ e => by rcases e with e | e; exact .inr (.inr (.inl e)); exact .inr (.inr (.inr (.inr (.inl e))))))
          have hM8 : ∀ y, mIE x s f Ms Mf' (.slice A6 (d.pend.length + 1) c6) y → mIE x s f Ms Mf vp y ∨ w.heap.size ≤ y := by
            rintro y (e | e | e | e | e | e)
            · exact .inl (.inl e)
            · exact .inl (.inr (.inl e))
            · exact .inl (.inr (.inr (.inl e)))
            · exact .inl (.inr (.inr (.inr (.inl e))))
            · rcases hMf' y e with e2 | e2
              · exact .inl (.inr (.inr (.inr (.inr (.inl e2)))))
              · have e2 : w7.heap.size ≤ y := e2
                exact .inr (by omega)
            · rcases hvq y e with e2 | e2
              · exact .inl (.inr (.inr (.inr (.inr (.inr e2)))))
              · exact .inr (by omega)
          have hF8 : ∀ y, (F y ∨ F3 y) → F y ∨ mIE x s f Ms Mf vp y ∨ w.heap.size ≤ y := by
            rintro y (e | e)
            · exact .inl e
            · exact .inr (.inr (HF3w.out y e).1)
          have HI := hid hI
          have HM8 := hid hM8
          have HF8 := hid hF8
          clear hI hM8 hF8 hX8 hMf' hC8 hC8q hHeld b7 hms7 ho7 hx7 hC7 hvq hk8 hkc8 hnew hcc hf8 HX7 HV7 HFc HA
          go_wp2
          go_ret
          rw [Hpu.out]
          exact ⟨rfl, s, f, Ms, Mf', _, _, _, _, HI.out, hC8w, HM8.out, HF8.out⟩
        refine AllReady.cons (o := ⟨some 28, .buildSlice _ _ _, _, _, _, none⟩) rfl (fun K hK => ?_) AllReady.nil
        refine step_bsW (.tmp 27) slTh (by rfl) (by rfl) (us := apL p (.slice A3 p.b.length c3)) (by rfl) rfl ?_
        refine hK _ _ ?_
        clear hK K
        try simp only [Act.put, List.setIfInBounds_toArray, List.set_cons_zero, List.set_cons_succ]
        refine wpAny_ready (rs := [4]) (by kernel_rfl) (by simp) ?_
        refine AllReady.cons (o := ⟨some 26, .load 55 (.tmp 25), _, _, _, none⟩) rfl (fun K hK => ?_) AllReady.nil
        refine step_ld1 55 (.tmp 25) (by rfl) (by rfl) (by rfl) d2' Tryd.isAgg55 ?_
        refine hK _ _ ?_
        clear hK K
        try simp only [Act.put, List.setIfInBounds_toArray, List.set_cons_zero, List.set_cons_succ]
        refine wpAny_ready (rs := [7]) (by kernel_rfl) (by simp) ?_
        refine AllReady.cons (o := ⟨some 29, .call _, _, _, _, none⟩) rfl (fun K hK => ?_) AllReady.nil
        refine step_appW5 (.tmp 26) (.tmp 28) slTh (by rfl) (by rfl) (us := apL p (.slice A3 p.b.length c3)) rfl (one_ap p _ _ _) (base := 0) (by rfl) ho (by rfl) (by simp only [maxLen]; omega) (by omega) (Nat.zero_le _) ?_
        intro v6 w6 ho6 hG6 hd6
        obtain ⟨A6, c6, rfl⟩ := own_shape8 ho6
        have b6 := hb.keep (hG6.block _ hb.lt (fun e => by have := Hh.out.cv x e.symm; have := Hh.out.cx; omega))
        refine hK _ _ ?_
        clear hK K
        try simp only [Act.put, List.setIfInBounds_toArray, List.set_cons_zero, List.set_cons_succ]
        refine wpAny_take (i := 8) (oi := ⟨some 30, _, _, _, _, none⟩) (v := ?_) rfl (by kernel_rfl) (by kernel_rfl) (by kernel_rfl) (fun _ _ _ h => h) (Or.inl ⟨by rfl, ?_⟩) ?_
        rotate_left
        · intro w; go_simp; try with_reducible rfl
        try simp only [Act.put, List.setIfInBounds_toArray, List.set_cons_zero, List.set_cons_succ]
        refine wpAny_take (i := 9) (oi := ⟨some 31, _, _, _, _, none⟩) (v := ?_) rfl (by kernel_rfl) (by kernel_rfl) (by kernel_rfl) (fun _ _ _ h => h) (Or.inl ⟨by rfl, ?_⟩) ?_
        rotate_left
        · intro w; go_simp; try with_reducible rfl
        try simp only [Act.put, List.setIfInBounds_toArray, List.set_cons_zero, List.set_cons_succ]
        refine wpAny_ready (rs := [10]) (by kernel_rfl) (by simp) ?_
        refine AllReady.cons (o := ⟨none, .store _ _ _, _, _, _, none⟩) rfl (fun K hK => ?_) AllReady.nil
        refine step_st1 55 (.tmp 31) (.tmp 29) (by rfl) (by rfl) (by rfl) (f := 3) (by rfl) (v := .slice A6 (d.pend.length + 1) c6) (by rfl) b6 (by simp [dcZ]) sizeSlTh rfl rfl ?_
        intro w7 b7 hG7
        refine hK _ _ ?_
        clear hK K
        try simp only [Act.put, List.setIfInBounds_toArray, List.set_cons_zero, List.set_cons_succ]
        refine wpAny_done (by kernel_rfl) ?_ _
        refine NoPanic.normal ?_
        have hvq : ∀ y, (Value.slice A6 (d.pend.length + 1) c6).ownBlock = some y → vp.ownBlock = some y ∨ (w4.heap.size ≤ y ∧ y < w6.heap.size) := fun y e => by
          rcases hd6 with h | ⟨q, h, hq⟩
          · exact .inl (h.symm.trans e)
          · rw [h] at e
            injection e with e
            exact .inr ⟨by omega, by have := (ho6.lt y (by rw [h, e])).2; omega⟩
        have hz6 := hG6.size
        have hz7 := hG7.size
        have hk7 : ∀ y, y < w4.heap.size → y ≠ x → vp.ownBlock ≠ some y → w7.heap[y]? = w4.heap[y]? := fun y hy hx2 hn => (hG7.block y (by omega) (by intro e; injection e with e; exact hx2 e)).trans (hG6.block y hy (fun e => hn e.symm))
        have hkc : ∀ y, y < w.heap.size → c y ≠ 0 → c y ≠ 5 → w7.heap[y]? = w4.heap[y]? := fun y hy h0 h5 => hk7 y (by omega) (fun e => h0 (by rw [e]; exact Hh.out.cx)) (fun e => h5 (Hh.out.cv y e))
        replace b7 : Blk w7 x 57 (dcZ { B with pend := d.pend ++ [a] } s f (.slice A6 (d.pend.length + 1) c6)) := b7
        have ho7 := own_keep10 ho6 (fun k hk he => hG7.block k hk (by intro e; injection e with e; rcases hvq k he with h2 | h2; (have := Hh.out.cv k h2; have := Hh.out.cx; rw [← e] at this; omega); omega))
        have hms7 := hms.keep (hkc s Hh.out.ms.lt (by have := Hh.out.cs; omega) (by have := Hh.out.cs; omega)) (fun y _ e => hkc y (Hh.out.cm y e).2 (by have := (Hh.out.cm y e).1; omega) (by have := (Hh.out.cm y e).1; omega))
        have hmf7 := hmf.keep (hkc f Hh.out.mf.lt (by have := Hh.out.cf; omega) (by have := Hh.out.cf; omega)) (fun y _ e => hkc y (Hh.out.cn y e).2 (by have := (Hh.out.cn y e).1; omega) (by have := (Hh.out.cn y e).1; omega))
        have hxF : ∀ y, y < w4.heap.size → F3 y → w7.heap[y]? = w4.heap[y]? := fun y hy e => hk7 y hy (by have := (HF3w.out y e).1; omega) (fun e2 => by have := hvl y e2; have := (HF3w.out y e).1; omega)
        have hx7 := (hx.keep (F' := fun y => F y ∨ F3 y) (fun y hy e => ⟨.inl e, hkc y (Hh.out.cF y e).2 (by have := (Hh.out.cF y e).1; omega) (by have := (Hh.out.cF y e).1; omega)⟩)).snoc (ap_mk (hv3.keep (F' := fun y => F y ∨ F3 y) (fun y hy e => ⟨.inr e, hxF y hy e⟩)))
        have hx7 : WdX w7 (fun y => F y ∨ F3 y) apD ((d.pend ++ [a]).map nrmA) _ := (by rw [List.map_append, List.map_cons, List.map_nil, ← Hp.out]; exact hx7)
        have hv7 := hv3.keep (F' := F3) (fun y hy e => ⟨e, hxF y hy e⟩)
        have b4' := b4.keep (hk7 g hg4 hgx (fun e => by have := hvl g e; omega))
        have hC7 : Ch (mIE x s f Ms Mf vp) w w7 := (hC4.grow hG6 (fun k hk => .inl (.inr (.inr (.inr (.inr (.inr hk))))))).grow hG7 (fun k hk => .inl (.inl (by injection hk with hk; exact hk.symm)))
        obtain ⟨W7, hW7⟩ : ∃ W, W = w7.heap.size := ⟨_, rfl⟩
        have HF3 : Hid (∀ y, F3 y → ¬ Mf y ∧ y ≠ f) := hid fun y e => ⟨fun e2 => by have := (HF3w.out y e).1; have := (Hh.out.cn y e2).2; omega, fun e2 => by have := (HF3w.out y e).1; have := Hh.out.mf.lt; omega⟩
        have HX7 : Hid (FX w7.drew Mf f (nowF d)) := hid ⟨hmf7.keep rfl (fun _ _ _ => rfl), Hh.out.fxf.2.1, fun y e => by show y < w7.heap.size; have := (Hh.out.cn y e).2; omega⟩
        have HV7 : Hid (Rd w7.drew F3 (.slice A3 p.b.length c3) (bys p.b)) := hid hv7.drew
        have HFc : Hid (∀ W, Ch (gX f Mf) w7 W → W.cell? ⟨x, 2, none⟩ = some (.map (some f))) := hid fun W hc => (b7.ch hc (by rintro (e | e); (have := Hh.out.cx; have := Hh.out.cf; rw [e] at *; omega); (have := Hh.out.cx; have := (Hh.out.cn x e).1; omega))).cellAt 2 _ rfl
        have HA : Hid (∀ W, Ch (gX f Mf) w7 W → W.rangeAt g 0 (apL p (.slice A3 p.b.length c3))) := hid fun W hc => (b4'.ch hc (by rintro (e | e); (have := Hh.out.mf.lt; omega); (have := (Hh.out.cn g e).2; omega))).whole
        have H7 := hid (And.intro b7 (And.intro hms7 (And.intro ho7 (And.intro hx7 (And.intro hC7 hvq)))))
        have hzz : w.heap.size ≤ w4.heap.size ∧ w4.heap.size ≤ w6.heap.size ∧ w6.heap.size ≤ W7 ∧ W7 = w7.heap.size := ⟨by omega, hz6, by omega, hW7⟩
        clear b7 hms7 hmf7 ho7 hx7 hC7 hv7 b4' hW7 hz6 hz7 hk7 hkc hxF hvq hb hms hmf ho hx hv3 b4 ho6 hG6 hG7 d2 d2' hd6 hC4 hrg b6
        go_upto_region 12 with (fail)
        refine wp_region_noPanic ?_
        refine wp_region_held_drew (S := Ch (gX f Mf) w7) (by kernel_rfl) ((Ch.refl _ _).drew) (fun hHeld => ?_)
        refine wpAnyH_take (i := 0) (oi := ⟨some 32, _, _, _, _, none⟩) (v := ?_) rfl (by kernel_rfl) (by kernel_rfl) (by kernel_rfl) (fun _ _ _ h => h) (Or.inl ⟨by rfl, ?_⟩) (by assumption) ?_
        rotate_left
        · intro w hSw; go_simp; try with_reducible rfl
        try simp only [Act.put, List.setIfInBounds_toArray, List.set_cons_zero, List.set_cons_succ]
        refine wpAnyH_take (i := 1) (oi := ⟨some 33, _, _, _, _, none⟩) (v := ?_) rfl (by kernel_rfl) (by kernel_rfl) (by kernel_rfl) (fun _ _ _ h => h) (Or.inl ⟨by rfl, ?_⟩) (by assumption) ?_
        rotate_left
        · intro w hSw; go_simp; try with_reducible rfl
        try simp only [Act.put, List.setIfInBounds_toArray, List.set_cons_zero, List.set_cons_succ]
        refine wpAnyH_take (i := 2) (oi := ⟨some 34, _, _, _, _, none⟩) (v := ?_) rfl (by kernel_rfl) (by kernel_rfl) (by kernel_rfl) (fun _ _ _ h => h) (Or.inl ⟨by rfl, ?_⟩) (by assumption) ?_
        rotate_left
        · intro w hSw; go_simp; try with_reducible rfl
        try simp only [Act.put, List.setIfInBounds_toArray, List.set_cons_zero, List.set_cons_succ]
        refine wpAnyH_take (i := 3) (oi := ⟨some 35, _, _, _, _, none⟩) (v := ?_) rfl (by kernel_rfl) (by kernel_rfl) (by kernel_rfl) (fun _ _ _ h => h) (Or.inl ⟨by rfl, ?_⟩) (by assumption) ?_
        rotate_left
        · intro w hSw; have hcw := HFc.out w hSw; go_simp; try with_reducible rfl
        try simp only [Act.put, List.setIfInBounds_toArray, List.set_cons_zero, List.set_cons_succ]
        refine wpAnyH_take (i := 4) (oi := ⟨some 36, .load 60 (.tmp 3), _, _, _, none⟩) (v := _) rfl (by kernel_rfl) (by kernel_rfl) (by kernel_rfl) (fun _ _ _ h => h) (yieldsIf_load_mid (by rfl) 60 (.tmp 3) (by rfl) _ (0) (by rfl) _ _ (fun _ hs => HA.out _ hs) Tryd.underlying60 rfl (sizeTh)) (by assumption) ?_
        try simp only [Act.put, List.setIfInBounds_toArray, List.set_cons_zero, List.set_cons_succ]
        refine wpAnyH_ready (rs := [5]) (by kernel_rfl) (by simp) ?_
        refine AllReadyH.cons (o := ⟨some 37, _, _, _, _, none⟩) rfl (fun K hK => ?_) AllReadyH.nil
        go_simp
        refine (do_e f (nowF d) Mf F3 p _ _ HX7.out HF3.out HV7.out hLn hp.nn hp.tt hp.b hfl).mono ?_
        rintro e w8 ⟨rfl, ⟨Mf', hX8, hMf'⟩, hC8⟩
        refine hK.out _ _ (hHeld.trans hC8) (fun hHeld => ?_)
        clear hK K
        try simp only [Act.put, List.setIfInBounds_toArray, List.set_cons_zero, List.set_cons_succ]
        refine wpAnyH_done (by kernel_rfl) ?_ _
        refine NoPanic.normal ?_
        have hC8q : Ch (gX f Mf) w7 w8 := hHeld
        obtain ⟨b7, hms7, ho7, hx7, hC7, hvq⟩ := H7.out
        obtain ⟨z1, z2, z3, z4⟩ := hzz
        have hz8 := hC8q.size
        have hk8 : ∀ y, y < w7.heap.size → y ≠ f → ¬ Mf y → w8.heap[y]? = w7.heap[y]? := fun y hy h1 h2 => hC8q.block y hy (by rintro (e | e); exact h1 e; exact h2 e)
        have hMflt : ∀ y, Mf y → y < w.heap.size := fun y e => (Hh.out.cn y e).2
        have hflt := Hh.out.mf.lt
        have hkc8 : ∀ y, y < w.heap.size → c y ≠ 2 → c y ≠ 4 → w8.heap[y]? = w7.heap[y]? := fun y hy h1 h2 => hk8 y (by omega) (fun e => h1 (by rw [e]; exact Hh.out.cf)) (fun e => h2 (Hh.out.cn y e).1)
        have hnew : ∀ y, y < w7.heap.size → w.heap.size ≤ y → w8.heap[y]? = w7.heap[y]? := fun y hy h1 => hk8 y hy (by omega) (fun e => by have := hMflt y e; omega)
        have hpl : ({ B with pend := d.pend ++ [a] } : Dk).pend.length = d.pend.length + 1 := by simp
        have hcc : ∀ y, y < w.heap.size → cN c w.heap.size w4.heap.size W7 y = c y := fun y hy => by unfold cN; rw [if_pos hy]
        have hf8 : FO Tryd.prog 9 5 w8 Mf' anyN f (nowF { B with pend := d.pend ++ [a] }) := by
          have e1 := hX8.1.perm (doM_perm (nowF d) p)
          rw [show doneF (nowF d) p = doneF (nowF d) a from by rw [Hp.out]; exact done_nrm _ _, ← HBn.out] at e1
          exact e1
        have hI : IE w8 x s f Ms Mf' (fun y => F y ∨ F3 y) (cN c w.heap.size w4.heap.size W7) { B with pend := d.pend ++ [a] } (.slice A6 (d.pend.length + 1) c6) _ := {
          hb := b7.keep (hkc8 x Hh.out.hb.lt (by have := Hh.out.cx; omega) (by have := Hh.out.cx; omega))
          ms := by
            show FO Tryd.prog 9 5 w8 Ms anyN s B.syn
            rw [HBs.out]
            exact hms7.keep (hkc8 s Hh.out.ms.lt (by have := Hh.out.cs; omega) (by have := Hh.out.cs; omega)) (fun y _ e => hkc8 y (Hh.out.cm y e).2 (by have := (Hh.out.cm y e).1; omega) (by have := (Hh.out.cm y e).1; omega))
          mf := hf8
          ho := by
            rw [hpl]
            exact own_keep10 ho7 (fun y hy e => by
              rcases hvq y e with e2 | e2
              · exact hkc8 y (hvl y e2) (by have := Hh.out.cv y e2; omega) (by have := Hh.out.cv y e2; omega)
              · exact hnew y hy (by omega))
          hx := hx7.keep (fun y hy e => ⟨e, by
            rcases e with e | e
            · exact hkc8 y (Hh.out.cF y e).2 (by have := (Hh.out.cF y e).1; omega) (by have := (Hh.out.cF y e).1; omega)
            · exact hnew y hy (HF3w.out y e).1⟩)
          cx := by rw [hcc x Hh.out.hb.lt]; exact Hh.out.cx
          cs := by rw [hcc s Hh.out.ms.lt]; exact Hh.out.cs
          cf := by rw [hcc f hflt]; exact Hh.out.cf
          cm := fun y e => ⟨by rw [hcc y (Hh.out.cm y e).2]; exact (Hh.out.cm y e).1, by have := (Hh.out.cm y e).2; omega⟩
          cn := fun y e => ⟨by
            rcases hMf' y e with e2 | e2
            · rw [hcc y (hMflt y e2)]; exact (Hh.out.cn y e2).1
            · have e2 : w7.heap.size ≤ y := e2
              unfold cN
              rw [if_neg (by omega), if_neg (by omega), if_neg (by omega)], hX8.2.2 y e⟩
          cv := fun y e => by
            rcases hvq y e with e2 | e2
            · rw [hcc y (hvl y e2)]; exact Hh.out.cv y e2
            · unfold cN
              rw [if_neg (by omega), if_neg (by omega), if_pos (by omega)]
          cF := fun y e => by
            rcases e with e | e
            · exact ⟨by rw [hcc y (Hh.out.cF y e).2]; exact (Hh.out.cF y e).1, by have := (Hh.out.cF y e).2; omega⟩
            · have := HF3w.out y e
              exact ⟨by unfold cN; rw [if_neg (by omega), if_pos (by omega)], by omega⟩
          st := by rw [show ({ B with pend := d.pend ++ [a] } : Dk).syn = d.syn from HBs.out]; exact Hh.out.st
          dn := HBd.out
          nS := by rw [show ({ B with pend := d.pend ++ [a] } : Dk).syn = d.syn from HBs.out]; exact Hh.out.nS
          pd := fun b hb => by
            rcases List.mem_append.1 hb with e | e
            · exact Hh.out.pd b e
            · rw [List.mem_singleton.1 e]; exact Hok.out }
        have hC8w : Ch (mIE x s f Ms Mf vp) w w8 := hC7.trans (hC8q.weaken (fun y _ e => by rcases e with e | e; exact .inr (.inr (.inl e)); exact .inr (.inr (.inr (.inr (.inl e))))))
        have hM8 : ∀ y, mIE x s f Ms Mf' (.slice A6 (d.pend.length + 1) c6) y → mIE x s f Ms Mf vp y ∨ w.heap.size ≤ y := by
          rintro y (e | e | e | e | e | e)
          · exact .inl (.inl e)
          · exact .inl (.inr (.inl e))
          · exact .inl (.inr (.inr (.inl e)))
          · exact .inl (.inr (.inr (.inr (.inl e))))
          · rcases hMf' y e with e2 | e2
            · exact .inl (.inr (.inr (.inr (.inr (.inl e2)))))
            · have e2 : w7.heap.size ≤ y := e2
              exact .inr (by omega)
          · rcases hvq y e with e2 | e2
            · exact .inl (.inr (.inr (.inr (.inr (.inr e2)))))
            · exact .inr (by omega)
        have hF8 : ∀ y, (F y ∨ F3 y) → F y ∨ mIE x s f Ms Mf vp y ∨ w.heap.size ≤ y := by
          rintro y (e | e)
          · exact .inl e
          · exact .inr (.inr (HF3w.out y e).1)
        have HI := hid hI
        have HM8 := hid hM8
        have HF8 := hid hF8
        clear hI hM8 hF8 hX8 hMf' hC8 hC8q hHeld b7 hms7 ho7 hx7 hC7 hvq hk8 hkc8 hnew hcc hf8 HX7 HV7 HFc HA
        go_wp2
        go_ret
        rw [Hpu.out]
        exact ⟨rfl, s, f, Ms, Mf', _, _, _, _, HI.out, hC8w, HM8.out, HF8.out⟩
    · have hrn : (refF d a == 0) = false := beq_eq_false_iff_ne.2 hr0
      have Hdo2 : Hid (R = (d, refF d a)) := hid (by rw [Hdo.out, if_neg hr0])
      obtain ⟨J, hJ⟩ : ∃ J, J = refF d a := ⟨_, rfl⟩
      rw [← hJ] at hrn ⊢
      have HJ := hid hJ
      have hBw := hB0.trans (hB1.mono hB0.size)
      clear hr0 hJ hrf Hdo
      go_wp2
      go_ret
      rw [Hdo2.out]
      exact ⟨by rw [← HJ.out]; rfl, Hh.out.same (.of_below hBw)⟩
end Go.Proofs.YtijhicfegbaadaaDoor
/- E6: layer 10: Append, Write, Rename, Delete, Read, Names, Pending, Down, Fuse, New of the landed disk. -/
namespace Go.Proofs.YtijhicfegbaadaaDoor
open Go.RowKit Go.V Go.Maps
set_option maxRecDepth 100000 in
set_option maxHeartbeats 2000000 in
theorem append_e (x s f : Nat) (Ms Mf F G : Nat → Prop) (c : Nat → Nat) (d : Dk) (vp : Value) (xs : List Value) (a : Ac) (va : Value) (w : World) (h : IE w x s f Ms Mf F c d vp xs) (hs : DkSm d) (ha : AcSm a) (hk : a.k = 0) (hva : Rd w G va (bys a.b)) (hG : ∀ y, G y → y ≠ x) :
    Calls Tryd.prog 19 #[.pointer (some ⟨x, 0, none⟩), .string a.n, va] w fun e w' => e = .returned (.int .i64 (doF d a).2) ∧ LfE w x s f Ms Mf F vp (doF d a).1 w' := by
  have hb : (nrmA a).b = a.b := by unfold nrmA; rw [if_pos (.inl hk)]
  have hth : thV (nrmA a) va = .agg #[.int .i64 0, .string a.n, .string ByteArray.empty, va] := by
    unfold thV nrmA
    rw [if_pos (.inl hk), hk]
  have hc := dom_e x s f Ms Mf F G c d vp xs a (nrmA a) va w h hs ha (by omega) rfl (by rw [hb]; exact hva) hG
  rw [hth] at hc
  obtain ⟨R, hR⟩ : ∃ R, R = doF d a := ⟨_, rfl⟩
  rw [← hR] at hc ⊢
  have HC := hid hc
  obtain ⟨A, ca, rfl⟩ := hva.shape
  clear hR hth hb h hva hc
  go_enter Tryd.func19, Tryd.ntmps19
  go_wp2_with (fail)
  refine HC.out.mono ?_
  rintro e w1 ⟨rfl, hL⟩
  clear HC
  go_wp2
  go_ret
  exact ⟨rfl, hL⟩
set_option maxRecDepth 100000 in
set_option maxHeartbeats 2000000 in
theorem write_e (x s f : Nat) (Ms Mf F G : Nat → Prop) (c : Nat → Nat) (d : Dk) (vp : Value) (xs : List Value) (a : Ac) (va : Value) (w : World) (h : IE w x s f Ms Mf F c d vp xs) (hs : DkSm d) (ha : AcSm a) (hk : a.k = 1) (hva : Rd w G va (bys a.b)) (hG : ∀ y, G y → y ≠ x) :
    Calls Tryd.prog 10 #[.pointer (some ⟨x, 0, none⟩), .string a.n, va] w fun e w' => e = .returned (.int .i64 (doF d a).2) ∧ LfE w x s f Ms Mf F vp (doF d a).1 w' := by
  have hb : (nrmA a).b = a.b := by unfold nrmA; rw [if_pos (.inr hk)]
  have hth : thV (nrmA a) va = .agg #[.int .i64 1, .string a.n, .string ByteArray.empty, va] := by
    unfold thV nrmA
    rw [if_pos (.inr hk), hk]
  have hc := dom_e x s f Ms Mf F G c d vp xs a (nrmA a) va w h hs ha (by omega) rfl (by rw [hb]; exact hva) hG
  rw [hth] at hc
  obtain ⟨R, hR⟩ : ∃ R, R = doF d a := ⟨_, rfl⟩
  rw [← hR] at hc ⊢
  have HC := hid hc
  obtain ⟨A, ca, rfl⟩ := hva.shape
  clear hR hth hb h hva hc
  go_enter Tryd.func10, Tryd.ntmps10
  go_wp2_with (fail)
  refine HC.out.mono ?_
  rintro e w1 ⟨rfl, hL⟩
  clear HC
  go_wp2
  go_ret
  exact ⟨rfl, hL⟩
set_option maxRecDepth 100000 in
set_option maxHeartbeats 2000000 in
theorem rename10_e (x s f : Nat) (Ms Mf F : Nat → Prop) (c : Nat → Nat) (d : Dk) (vp : Value) (xs : List Value) (a : Ac) (w : World) (h : IE w x s f Ms Mf F c d vp xs) (hs : DkSm d) (ha : AcSm a) (hk : a.k = 2) :
    Calls Tryd.prog 22 #[.pointer (some ⟨x, 0, none⟩), .string a.n, .string a.t] w fun e w' => e = .returned (.int .i64 (doF d a).2) ∧ LfE w x s f Ms Mf F vp (doF d a).1 w' := by
  have hb : (nrmA a).b = [] := by unfold nrmA; rw [if_neg (by omega), if_pos hk]
  have hth : thV (nrmA a) (.slice none 0 0) = .agg #[.int .i64 2, .string a.n, .string a.t, .slice none 0 0] := by
    unfold thV nrmA
    rw [if_neg (by omega), if_pos hk, hk]
  have hc := dom_e x s f Ms Mf F (fun _ => False) c d vp xs a (nrmA a) (.slice none 0 0) w h hs ha (by omega) rfl (by rw [hb]; exact Rd.nil _ _) (fun _ e => e.elim)
  rw [hth] at hc
  obtain ⟨R, hR⟩ : ∃ R, R = doF d a := ⟨_, rfl⟩
  rw [← hR] at hc ⊢
  have HC := hid hc
  clear hR hth hb h hc
  go_enter Tryd.func22, Tryd.ntmps22
  go_wp2_with (fail)
  refine HC.out.mono ?_
  rintro e w1 ⟨rfl, hL⟩
  clear HC
  go_wp2
  go_ret
  exact ⟨rfl, hL⟩
set_option maxRecDepth 100000 in
set_option maxHeartbeats 2000000 in
theorem read_e (x s f : Nat) (Ms Mf F : Nat → Prop) (c : Nat → Nat) (d : Dk) (vp : Value) (xs : List Value) (n : ByteArray) (w : World) (h : IE w x s f Ms Mf F c d vp xs) (hs : DkSm d) (hn : n.size ≤ maxLen) :
    Calls Tryd.prog 17 #[.pointer (some ⟨x, 0, none⟩), .string n] w fun e w' => ∃ vb, e = .returned (.tuple #[vb, .int .i64 (if (findF (nowF d) n).isSome = true then 0 else 13)]) ∧ Rd w' (fun b => w.heap.size ≤ b) vb (bys ((findF (nowF d) n).getD [])) ∧ Below w.heap.size w w' := by
  have c2 := h.hb.cellAt 2 _ rfl
  have hM := h.mf.fms
  have hft := find_tot (nowF d) n
  have hnb := now_bd d.pend d.syn
  have hst := hs.t
  have hfl : ((findF (nowF d) n).getD []).length ≤ 1000000000 := by unfold nowF at hft ⊢; omega
  clear hft hnb hst h
  cases hf : findF (nowF d) n with
  | none =>
    have hi : (findF (nowF d) n).isSome = false := by rw [hf]; rfl
    clear hf
    go_enter Tryd.func17, Tryd.ntmps17
    go_wp2_with (first | (at_lookup; refine wp_lookF 54 22 (.tmp 14) (.tmp 15) rfl rfl Tryd.underlying9 Tryd.underlying54 (zSl10 _) rfl hM rfl hn ?_; intro A7 c7 hv7) | go_in)
    go_ret2
    exact ⟨_, rfl, Rd.nil _ _, Below.refl _ _⟩
  | some bb =>
    have hi : (findF (nowF d) n).isSome = true := by rw [hf]; rfl
    have hbb : (findF (nowF d) n).getD [] = bb := by rw [hf]; rfl
    have HB := hid hbb
    clear hf hbb
    go_enter Tryd.func17, Tryd.ntmps17
    go_wp2_with (first | (at_lookup; refine wp_lookF 54 22 (.tmp 14) (.tmp 15) rfl rfl Tryd.underlying9 Tryd.underlying54 (zSl10 _) rfl hM rfl hn ?_; intro A7 c7 hv7; refine wp_stop ?_) | fail)
    refine wp_go ?_
    go_wp2_with (fail)
    refine (bclone_any _ Mf _ _ hv7 hfl).mono ?_
    rintro e w8 ⟨v8, rfl, ho8, hB8⟩
    have hr8 := Rd.of_own ho8
    rw [HB.out] at hr8
    have HR := hid hr8
    obtain ⟨A8, c8, rfl⟩ := own_shape8 ho8
    clear ho8 hr8 c2 hM hv7
    go_wp2
    go_ret2
    exact ⟨_, rfl, HR.out, hB8⟩
set_option maxRecDepth 100000 in
set_option maxHeartbeats 2000000 in
theorem down_e (x s f : Nat) (Ms Mf F : Nat → Prop) (c : Nat → Nat) (d : Dk) (vp : Value) (xs : List Value) (w : World) (h : IE w x s f Ms Mf F c d vp xs) :
    Calls Tryd.prog 30 #[.pointer (some ⟨x, 0, none⟩)] w fun e w' => e = .returned (.bool d.down) ∧ w' = w := by
  have c5 := h.hb.cellAt 5 _ rfl
  clear h
  go_enter Tryd.func30, Tryd.ntmps30
  go_wp2
  go_ret
  exact ⟨by rfl, rfl⟩
set_option maxRecDepth 100000 in
set_option maxHeartbeats 2000000 in
theorem pending_e (x s f : Nat) (Ms Mf F : Nat → Prop) (c : Nat → Nat) (d : Dk) (vp : Value) (xs : List Value) (w : World) (h : IE w x s f Ms Mf F c d vp xs) :
    Calls Tryd.prog 18 #[.pointer (some ⟨x, 0, none⟩)] w fun e w' => e = .returned (.int .i64 (d.pend.length : Int)) ∧ w' = w := by
  obtain ⟨A, cc, hvp⟩ := own_shape8 h.ho
  have c3 := h.hb.cellAt 3 _ rfl
  rw [hvp] at c3
  clear h hvp
  go_enter Tryd.func18, Tryd.ntmps18
  go_wp2
  go_ret
  exact ⟨by rfl, rfl⟩
set_option maxRecDepth 100000 in
set_option maxHeartbeats 2000000 in
theorem new10_e (r : Int) (w : World) : Calls Tryd.prog 9 #[.int .i64 r] w fun e w' => ∃ x s f Ms Mf c, e = .returned (.pointer (some ⟨x, 0, none⟩)) ∧ IE w' x s f Ms Mf (fun _ => False) c ⟨roomF r, [], [], -1, false⟩ (.slice none 0 0) [] ∧ Below w.heap.size w w' ∧ ∀ y, mIE x s f Ms Mf (.slice none 0 0) y → w.heap.size ≤ y := by
  obtain ⟨R, hR, hRm⟩ : ∃ R : Int, min (max r 0) 1048576 = R ∧ R = roomF r := ⟨_, rfl, by unfold roomF; split <;> (try split) <;> omega⟩
  have HR := hid hRm
  have hmm := @run_makeMap Tryd.prog
  clear hRm
  go_enter Tryd.func9, Tryd.ntmps9
  go_wp2
  go_ret
  have ea : (w.alloc (.map #[] 0)).heap.size = w.heap.size + 1 := by simp
  have eb : ((w.alloc (.map #[] 0)).alloc (.map #[] 0)).heap.size = w.heap.size + 1 + 1 := by simp
  have h1 := (FO.made (P := Tryd.prog) (k := 9) (e := 5) (w := w) (M := fun _ => False) (ok := anyN))
  have h2 := (FO.made (P := Tryd.prog) (k := 9) (e := 5) (w := w.alloc (.map #[] 0)) (M := fun _ => False) (ok := anyN))
  have b1 := (Below.refl w.heap.size w).alloc (Nat.le_refl _) (.map #[] 0)
  have b2 := (Below.refl (w.alloc (.map #[] 0)).heap.size (w.alloc (.map #[] 0))).alloc (Nat.le_refl _) (.map #[] 0)
  have h3 := Blk.new' ((w.alloc (.map #[] 0)).alloc (.map #[] 0)) 57 [.int .i64 R, .map (some w.heap.size), .map (some (w.heap.size + 1)), .slice none 0 0, .int .i64 (-1), .bool false]
  have b3 := (Below.refl ((w.alloc (.map #[] 0)).alloc (.map #[] 0)).heap.size ((w.alloc (.map #[] 0)).alloc (.map #[] 0))).alloc (Nat.le_refl _) (.cells [.int .i64 R, .map (some w.heap.size), .map (some (w.heap.size + 1)), .slice none 0 0, .int .i64 (-1), .bool false].toArray 57)
  have h1 := (h1.below b2).below b3
  have h2 := h2.below b3
  rw [ea] at h2
  rw [eb] at h3
  refine ⟨_, w.heap.size, w.heap.size + 1, fun _ => False, fun _ => False, fun y => if y = w.heap.size + 1 + 1 then 0 else if y = w.heap.size then 1 else 2, rfl, ?_, (b1.trans (b2.mono (by omega))).trans (b3.mono (by omega)), ?_⟩
  · rw [← HR.out]
    exact ⟨h3, h1, h2, ⟨by simp, .inl ⟨rfl, rfl⟩⟩, by simp [WdX], if_pos rfl, by rw [if_neg (by omega), if_pos rfl], by rw [if_neg (by omega), if_neg (by omega)], fun _ e => e.elim, fun _ e => e.elim, fun _ e => by simp [Value.ownBlock] at e, fun _ e => e.elim, List.Pairwise.nil, (fun e => by cases e), (fun _ e => by simp at e), (fun _ e => by simp at e)⟩
  · rintro y (e | e | e | e | e | e)
    · rw [e]; omega
    · omega
    · omega
    · exact e.elim
    · exact e.elim
    · simp [Value.ownBlock] at e
end Go.Proofs.YtijhicfegbaadaaDoor
/- E7: layer 10: Sync of the landed disk. -/
namespace Go.V
open Go.RowKit
theorem Ch.transN {G G' : Nat → Prop} {a b c : World} (h : Ch G a b) (k : Ch G' b c) (hG : ∀ y, G' y → G y ∨ a.heap.size ≤ y) : Ch G a c :=
  ⟨k.os.trans h.os, k.tape.trans h.tape, k.output.trans h.output, Nat.le_trans h.size k.size, fun y hy hn => (k.block y (Nat.lt_of_lt_of_le hy h.size) (fun e => (hG y e).elim hn (by omega))).trans (h.block y hy hn)⟩
theorem burn_same {d : Dk} (hd : d.down = true) (hf : d.fuse = 0) : (burnF d).1 = d := by
  obtain ⟨room, syn, pend, fuse, down⟩ := d
  dsimp only at hd hf
  subst hd hf
  rfl
theorem sync_do {d : Dk} {a : Ac} (hk : a.k = 4) : (doF d a).1 = if (burnF d).1.down = true then (burnF d).1 else { (burnF d).1 with syn := nowF d, pend := [] } := by
  unfold doF
  rw [if_pos hk]
  have e : (burnF d).2 = !(burnF d).1.down := rfl
  rw [e]
  cases (burnF d).1.down <;> rfl
theorem now_take (l : List Fl) (p : List Ac) (i : Nat) (a : Ac) (h : p[i]? = some a) : nowL l (p.take (i + 1)) = doneF (nowL l (p.take i)) a := by
  rw [take_snocF h, now_snoc]
theorem totA_le_take (l : List Fl) (p : List Ac) (i : Nat) : tot (nowL l (p.take i)) ≤ tot l + totA p ∧ (nowL l (p.take i)).length ≤ l.length + p.length := by
  have h1 := now_bd (p.take i) l
  have h2 := totA_take p i
  rw [List.length_take] at h1
  omega
def cT (c : Nat → Nat) (a : Nat) (y : Nat) : Nat := if y < a then c y else 3
end Go.V
namespace Go.Proofs.YtijhicfegbaadaaDoor
open Go.RowKit Go.V Go.Maps
set_option maxRecDepth 100000 in
set_option maxHeartbeats 8000000 in
theorem sync_e (x s f : Nat) (Ms Mf F : Nat → Prop) (c : Nat → Nat) (d : Dk) (vp : Value) (xs : List Value) (a : Ac) (w : World) (h : IE w x s f Ms Mf F c d vp xs) (hs : DkSm d) (hk : a.k = 4) :
    Calls Tryd.prog 21 #[.pointer (some ⟨x, 0, none⟩)] w fun e w' => e = .returned (.tuple #[]) ∧ LfE w x s f Ms Mf F vp (doF d a).1 w' := by
  have hdo := sync_do (d := d) hk
  obtain ⟨R, hR⟩ : ∃ R, R = (doF d a).1 := ⟨_, rfl⟩
  rw [← hR] at hdo ⊢
  clear hR
  have c5 := h.hb.cellAt 5 _ rfl
  obtain ⟨Ap, cp, hvp⟩ := own_shape8 h.ho
  rw [hvp] at h ⊢
  clear hvp
  have Hh := hid h
  have hB2d : (burnF d).1.down = true → (burnF d).1.fuse = 0 := burn_down h.dn
  cases hd : d.down with
  | true =>
    rw [hd] at c5
    have Hdo : Hid (R = d) := hid (by
      rw [hdo, burn_same hd (h.dn hd), if_pos hd])
    clear hd hdo h hB2d
    go_enter Tryd.func21, Tryd.ntmps21
    go_wp2
    refine bodyPost_ret (results_none rfl _ _ _) rfl ?_
    rw [Hdo.out]
    exact ⟨rfl, Hh.out.same (Ch.refl _ _)⟩
  | false =>
    rw [hd] at c5
    have Hd := hid hd
    have Hdo := hid hdo
    clear hd hdo h
    go_enter Tryd.func21, Tryd.ntmps21
    go_wp2_with (fail)
    refine (blows_e x s f _ d _ Hh.out.hb hs.f Hd.out).mono ?_
    rintro e w2 ⟨rfl, hb2, hC2⟩
    obtain ⟨B, hBu⟩ : ∃ B, B = (burnF d).1 := ⟨_, rfl⟩
    have H2 : Hid (IE w2 x s f Ms Mf F c B (.slice Ap d.pend.length cp) xs) := hid (by rw [hBu]; exact Hh.out.blk hb2 hC2 rfl rfl hB2d)
    have HBp : Hid (B.pend = d.pend) := hid (by rw [hBu]; rfl)
    have HBm : Hid (nowF B = nowF d) := hid (by rw [hBu]; rfl)
    have HBs : Hid (B.syn = d.syn) := hid (by rw [hBu]; rfl)
    have HBd : Hid (B.down = true → B.fuse = 0) := hid (by rw [hBu]; exact hB2d)
    have Hdo1 : Hid (R = if B.down = true then B else { B with syn := nowF d, pend := [] }) := hid (by rw [hBu]; exact Hdo.out)
    rw [← hBu]
    have hC2w : Ch (mIE x s f Ms Mf (.slice Ap d.pend.length cp)) w w2 := hC2.weaken (fun k _ e => .inl e)
    clear hBu hB2d hb2 hC2 Hdo c5
    cases hdB : B.down with
    | true =>
      have Hdo2 : Hid (R = B) := hid (by rw [Hdo1.out, if_pos hdB])
      clear hdB
      go_wp2
      refine bodyPost_ret (results_none rfl _ _ _) rfl ?_
      rw [Hdo2.out]
      exact ⟨rfl, s, f, Ms, Mf, F, c, _, xs, H2.out, hC2w, fun _ e => .inl e, fun _ e => .inl e⟩
    | false =>
      have Hdo2 : Hid (R = { B with syn := nowF d, pend := [] }) := hid (by rw [Hdo1.out, if_neg (by rw [hdB]; simp)])
      have c3 := H2.out.hb.cellAt 3 _ rfl
      have hsn := hs.n
      have hst := hs.t
      have hX2 : FX w2 Ms s (nowL d.syn (d.pend.take 0)) := by have := H2.out.fxs; rw [HBs.out] at this; exact this
      have hwz := hC2w.size
      have ho2 : w2.ownsRow 0 60 4 (.slice Ap d.pend.length cp) d.pend.length xs := by have := H2.out.ho; rw [HBp.out] at this; exact this
      have hx2 : WdX w2 F apD (d.pend.map nrmA) xs := by have := H2.out.hx; rw [HBp.out] at this; exact this
      have Ho2 := hid ho2
      have Hx2 := hid hx2
      have hxw : x < w.heap.size := Hh.out.hb.lt
      have hsw : s < w.heap.size := Hh.out.ms.lt
      have hMsw : ∀ y, Ms y → y < w.heap.size := fun y e => (Hh.out.cm y e).2
      have hFw : ∀ y, F y → y < w.heap.size := fun y e => (Hh.out.cF y e).2
      have hsx : s ≠ x := fun e => by have := Hh.out.cx; have := Hh.out.cs; rw [e] at this; omega
      clear hdB ho2 hx2 Hdo1
      go_wp2
      clear c3
      go_loopw [21] (fun iv wr => ∃ (i : Nat) (M' : Nat → Prop), i ≤ d.pend.length ∧ iv = .int .i64 i ∧ FX wr M' s (nowL d.syn (d.pend.take i)) ∧ (∀ y, M' y → Ms y ∨ w2.heap.size ≤ y) ∧ Ch (gX s Ms) w2 wr) (fun i _ => d.pend.length - (intOf i).toNat)
      case atStart => exact ⟨0, Ms, Nat.zero_le _, rfl, hX2, fun _ e => .inl e, Ch.refl _ _⟩
      case round =>
        obtain ⟨i, M', hi, rfl, hX, hM', hC⟩ := hrel
        have hzr := hC.size
        have hck : ∀ y, y < w.heap.size → c y ≠ 1 → c y ≠ 3 → wr.heap[y]? = w2.heap[y]? := fun y hy h1 h3 => hC.block y (by omega) (by rintro (e | e); (have := Hh.out.cs; rw [e] at h1; omega); (have := (Hh.out.cm y e).1; omega))
        by_cases hlt : i < d.pend.length
        · obtain ⟨a0, ha⟩ : ∃ a0, d.pend[i]? = some a0 := ⟨_, List.getElem?_eq_getElem hlt⟩
          have hI : (i : Int) < (d.pend.length : Int) := by omega
          have han : (d.pend.map nrmA)[i]? = some (nrmA a0) := by rw [List.getElem?_map, ha]; rfl
          obtain ⟨b, hbb⟩ : ∃ b, b = nrmA a0 := ⟨_, rfl⟩
          rw [← hbb] at han
          have Hb := hid hbb
          have hok := H2.out.pd a0 (by rw [HBp.out]; exact List.mem_of_getElem? ha)
          have hbs : AcSm b := by rw [hbb]; exact nrm_sm hok.sm
          clear hbb
          have hor := own_keep10 Ho2.out (fun k _ he => hck k (Hh.out.ho.lt k he).2 (by have := Hh.out.cv k he; omega) (by have := Hh.out.cv k he; omega))
          have hxr : WdX wr F apD (d.pend.map nrmA) xs := Hx2.out.keep (fun y _ e => ⟨e, hck y (hFw y e) (by have := (Hh.out.cF y e).1; omega) (by have := (Hh.out.cF y e).1; omega)⟩)
          obtain ⟨gr, cr, cs, hve, hrg, he⟩ := own_el hor hxr han
          injection hve with hve hve2 hve3
          subst hve hve3
          obtain ⟨u, rfl, hu⟩ := ap_open he
          obtain ⟨Au, cu, rfl⟩ := hu.shape
          have htk := totA_le_take d.syn d.pend i
          have hsn2 := now_take d.syn d.pend i a0 ha
          obtain ⟨L, hL⟩ : ∃ L, L = nowL d.syn (d.pend.take i) := ⟨_, rfl⟩
          rw [← hL] at hX htk hsn2
          have hLn : L.length < maxLen := by simp only [maxLen]; omega
          have hft := find_tot L b.n
          have hfl : ((findF L b.n).getD []).length ≤ 1000000000 := by omega
          have hin : IntKind.i64.wrap ((i : Int) + 1) = (i : Int) + 1 := IntWalk.i64_in _ (by omega)
          have HS2 := hid hsn2
          clear he hor hxr han ha hL hft htk hsn2 hok
          go_wp2_with (first | refine wp_ixa 55 (.tmp 19) (.tmp 21) rfl rfl rfl rfl Tryd.underlying55 hlt sizeTh ?_ | refine wp_ld 60 (.tmp 23) rfl rfl rfl hrg Tryd.underlying60 rfl sizeTh ?_ | (refine wp_newst 60 3 (.tmp 24) rfl rfl rfl rfl rfl rfl zeroTh (l := apL b (.slice Au b.b.length cu)) rfl rfl sizeTh (one_ap _ _ _ _) (by simp [Act.put]) ?_; intro w3 hb3 hB3 hz3; refine wp_stop ?_))
          obtain ⟨ga, hga⟩ : ∃ u, u = wr.heap.size := ⟨_, rfl⟩
          rw [← hga] at hb3 ⊢
          have hgar : wr.heap.size ≤ ga ∧ ga < w3.heap.size := ⟨by omega, hb3.lt⟩
          have hz3' := hB3.size
          have hMr : ∀ y, M' y → y < wr.heap.size := hX.2.2
          have hu3 := hu.below hB3
          have hX3 := hX.1.below hB3
          have HX3 : Hid (FX w3.drew M' s L) := hid ⟨hX3.keep rfl (fun _ _ _ => rfl), hX.2.1, fun y e => by show y < w3.heap.size; have := hMr y e; omega⟩
          have HU3 : Hid (Rd w3.drew F (.slice Au b.b.length cu) (bys b.b)) := hid hu3.drew
          have hgM : ¬ gX s M' ga := by
            rintro (e | e)
            · omega
            · have := hMr ga e; omega
          have hxM : ¬ gX s M' x := by
            rintro (e | e)
            · exact hsx e.symm
            · rcases hM' x e with e2 | e2
              · have := (Hh.out.cm x e2).1; have := Hh.out.cx; omega
              · omega
          have hbx : Blk w3 x 57 (dcZ B s f (.slice (some ⟨gr, 0, none⟩) d.pend.length cp)) := (H2.out.hb.keep (hck x hxw (by have := Hh.out.cx; omega) (by have := Hh.out.cx; omega))).below hB3
          have HS : Hid (∀ W, Ch (gX s M') w3 W → W.cell? ⟨x, 1, none⟩ = some (.map (some s))) := hid fun W hc => (hbx.ch hc hxM).cellAt 1 _ rfl
          have HA : Hid (∀ W, Ch (gX s M') w3 W → W.rangeAt ga 0 (apL b (.slice Au b.b.length cu))) := hid fun W hc => (hb3.ch hc hgM).whole
          have HFM : Hid (∀ y, F y → ¬ M' y ∧ y ≠ s) := hid fun y e => ⟨fun e2 => by
            rcases hM' y e2 with e3 | e3
            · have := (Hh.out.cm y e3).1; have := (Hh.out.cF y e).1; omega
            · have := hFw y e; omega, fun e2 => by have := (Hh.out.cF y e).1; have := Hh.out.cs; rw [← e2] at this; omega⟩
          have hC3 : Ch (gX s Ms) w2 w3 := hC.belowR hB3
          have HM' := hid hM'
          clear hX hX3 hu3 hu hrg hb3 hB3 hC hck hbx hM' hgM hxM hga hz3
          refine wp_go ?_
          go_upto_region 4 with (fail)
          refine wp_region_noPanic ?_
          refine wp_region_held_drew (S := Ch (gX s M') w3) (by kernel_rfl) ((Ch.refl _ _).drew) (fun hHeld => ?_)
          refine wpAnyH_take (i := 0) (oi := ⟨some 25, _, _, _, _, none⟩) (v := ?_) rfl (by kernel_rfl) (by kernel_rfl) (by kernel_rfl) (fun _ _ _ h => h) (Or.inl ⟨by rfl, ?_⟩) (by assumption) ?_
          rotate_left
          · intro w hSw; go_simp; try with_reducible rfl
          try simp only [Act.put, List.setIfInBounds_toArray, List.set_cons_zero, List.set_cons_succ]
          refine wpAnyH_take (i := 1) (oi := ⟨some 26, _, _, _, _, none⟩) (v := ?_) rfl (by kernel_rfl) (by kernel_rfl) (by kernel_rfl) (fun _ _ _ h => h) (Or.inl ⟨by rfl, ?_⟩) (by assumption) ?_
          rotate_left
          · intro w hSw; go_simp; try with_reducible rfl
          try simp only [Act.put, List.setIfInBounds_toArray, List.set_cons_zero, List.set_cons_succ]
          refine wpAnyH_take (i := 2) (oi := ⟨some 27, _, _, _, _, none⟩) (v := ?_) rfl (by kernel_rfl) (by kernel_rfl) (by kernel_rfl) (fun _ _ _ h => h) (Or.inl ⟨by rfl, ?_⟩) (by assumption) ?_
          rotate_left
          · intro w hSw; go_simp; try with_reducible rfl
          try simp only [Act.put, List.setIfInBounds_toArray, List.set_cons_zero, List.set_cons_succ]
          refine wpAnyH_take (i := 3) (oi := ⟨some 28, _, _, _, _, none⟩) (v := ?_) rfl (by kernel_rfl) (by kernel_rfl) (by kernel_rfl) (fun _ _ _ h => h) (Or.inl ⟨by rfl, ?_⟩) (by assumption) ?_
          rotate_left
          · intro w hSw; have hcw := HS.out w hSw; go_simp; try with_reducible rfl
          try simp only [Act.put, List.setIfInBounds_toArray, List.set_cons_zero, List.set_cons_succ]
          refine wpAnyH_take (i := 4) (oi := ⟨some 29, .load 60 (.tmp 3), _, _, _, none⟩) (v := _) rfl (by kernel_rfl) (by kernel_rfl) (by kernel_rfl) (fun _ _ _ h => h) (yieldsIf_load_mid (by rfl) 60 (.tmp 3) (by rfl) _ (0) (by rfl) _ _ (fun _ hs => HA.out _ hs) Tryd.underlying60 rfl (sizeTh)) (by assumption) ?_
          try simp only [Act.put, List.setIfInBounds_toArray, List.set_cons_zero, List.set_cons_succ]
          refine wpAnyH_ready (rs := [5]) (by kernel_rfl) (by simp) ?_
          refine AllReadyH.cons (o := ⟨some 30, _, _, _, _, none⟩) rfl (fun K hK => ?_) AllReadyH.nil
          go_simp
          refine (do_e s L M' F b _ _ HX3.out HFM.out HU3.out hLn hbs.nn hbs.tt hbs.b hfl).mono ?_
          rintro e w5 ⟨rfl, ⟨M5, hX5, hM5⟩, hC5⟩
          refine hK.out _ _ (hHeld.trans hC5) (fun hHeld => ?_)
          clear hK K
          try simp only [Act.put, List.setIfInBounds_toArray, List.set_cons_zero, List.set_cons_succ]
          refine wpAnyH_done (by kernel_rfl) ?_ _
          refine NoPanic.normal ?_
          have hC5q : Ch (gX s M') w3 w5 := hHeld
          have hz5 := hC5q.size
          have HX6 : Hid (FX w5 M5 s (nowL d.syn (d.pend.take (i + 1)))) := hid (by
            rw [HS2.out]
            refine ⟨?_, hX5.2⟩
            have e1 := hX5.1.perm (doM_perm L b)
            rw [show doneF L b = doneF L a0 from by rw [Hb.out]; exact done_nrm _ _] at e1
            exact e1)
          have HM6 : Hid (∀ y, M5 y → Ms y ∨ w2.heap.size ≤ y) := hid fun y e => by
            rcases hM5 y e with e2 | e2
            · exact HM'.out y e2
            · have e2 : w3.heap.size ≤ y := e2
              exact .inr (by omega)
          have hC6 : Ch (gX s Ms) w2 w5 := hC3.transN hC5q (by
            rintro y (e | e)
            · exact .inl (.inl e)
            · exact (HM'.out y e).imp .inr id)
          clear hX5 hM5 hC5 hC5q hHeld HX3 HU3 HS HA HFM hC3
          go_wp2
          go_roundw
          case rel => exact ⟨i + 1, M5, by omega, by go_num, HX6.out, HM6.out, hC6⟩
          case measure => simp [intOf]; omega
        · have hi' : i = d.pend.length := by omega
          subst hi'
          have hI : ¬ (d.pend.length : Int) < (d.pend.length : Int) := by omega
          rw [List.take_length] at hX
          have hbx : Blk wr x 57 (dcZ B s f (.slice Ap d.pend.length cp)) := H2.out.hb.keep (hck x hxw (by have := Hh.out.cx; omega) (by have := Hh.out.cx; omega))
          have HX := hid hX
          have HM' := hid hM'
          have HC := hid hC
          have Hck := hid hck
          have hcl : (dcZ B s f (.slice Ap d.pend.length cp)).length = 6 := rfl
          clear hX hM' hC hck hi hlt
          go_wp2_with (refine wp_st1 55 (.tmp 34) (.const (.slice none 0 0)) rfl rfl rfl (f := 3) rfl (v := .slice none 0 0) rfl hbx (by rw [hcl]; omega) sizeSlTh rfl rfl ?_; intro w6 hb6 hG6; refine wp_stop ?_)
          have hb6 : Blk w6 x 57 (dcZ { B with syn := nowF d, pend := [] } s f (.slice none 0 0)) := hb6
          have hz6 := hG6.size
          have hk6 : ∀ y, y < wr.heap.size → y ≠ x → w6.heap[y]? = wr.heap[y]? := fun y hy hn => hG6.block y hy (fun e => by injection e with e; exact hn e)
          have hMx : ∀ y, M' y → y ≠ x := fun y e e2 => by
            rcases HM'.out y e with e3 | e3
            · have := (Hh.out.cm y e3).1; have := Hh.out.cx; rw [← e2] at this; omega
            · omega
          have hmf2 : FO Tryd.prog 9 5 w2 Mf anyN f (nowF d) := by have := H2.out.mf; rw [HBm.out] at this; exact this
          have hkf : ∀ y, y < w.heap.size → c y = 2 ∨ c y = 4 → w6.heap[y]? = w2.heap[y]? := fun y hy e => (hk6 y (by omega) (fun e2 => by have := Hh.out.cx; rw [← e2] at this; omega)).trans (Hck.out y hy (by omega) (by omega))
          have hI6 : IE w6 x s f M' Mf F (cT c w2.heap.size) { B with syn := nowF d, pend := [] } (.slice none 0 0) [] := {
            hb := hb6
            ms := HX.out.1.keep (hk6 s HX.out.1.lt hsx) (fun y hy e => hk6 y hy (hMx y e))
            mf := hmf2.keep (hkf f Hh.out.mf.lt (.inl Hh.out.cf)) (fun y _ e => hkf y (Hh.out.cn y e).2 (.inr (Hh.out.cn y e).1))
            ho := ⟨by simp, .inl ⟨rfl, rfl⟩⟩
            hx := by simp [WdX]
            cx := by unfold cT; rw [if_pos (by omega)]; exact Hh.out.cx
            cs := by unfold cT; rw [if_pos (by omega)]; exact Hh.out.cs
            cf := by unfold cT; rw [if_pos (by have := Hh.out.mf.lt; omega)]; exact Hh.out.cf
            cm := fun y e => ⟨by
              rcases HM'.out y e with e2 | e2
              · unfold cT; rw [if_pos (by have := hMsw y e2; omega)]; exact (Hh.out.cm y e2).1
              · unfold cT; rw [if_neg (by omega)], by have := HX.out.2.2 y e; omega⟩
            cn := fun y e => ⟨by unfold cT; rw [if_pos (by have := (Hh.out.cn y e).2; omega)]; exact (Hh.out.cn y e).1, by have := (Hh.out.cn y e).2; omega⟩
            cv := fun y e => by simp [Value.ownBlock] at e
            cF := fun y e => ⟨by unfold cT; rw [if_pos (by have := hFw y e; omega)]; exact (Hh.out.cF y e).1, by have := hFw y e; omega⟩
            st := srt_now _ Hh.out.st
            dn := HBd.out
            nS := Hh.out.nf
            pd := fun _ e => by cases e }
          have hC6 : Ch (mIE x s f Ms Mf (.slice Ap d.pend.length cp)) w w6 := ((hC2w.transN HC.out (by
            rintro y (e | e)
            · exact .inl (.inr (.inl e))
            · exact .inl (.inr (.inr (.inr (.inl e)))))).grow hG6 (fun k hk => .inl (.inl (by injection hk with hk; exact hk.symm))))
          have hM6 : ∀ y, mIE x s f M' Mf (.slice none 0 0) y → mIE x s f Ms Mf (.slice Ap d.pend.length cp) y ∨ w.heap.size ≤ y := by
            rintro y (e | e | e | e | e | e)
            · exact .inl (.inl e)
            · exact .inl (.inr (.inl e))
            · exact .inl (.inr (.inr (.inl e)))
            · rcases HM'.out y e with e2 | e2
              · exact .inl (.inr (.inr (.inr (.inl e2))))
              · exact .inr (by omega)
            · exact .inl (.inr (.inr (.inr (.inr (.inl e)))))
            · simp [Value.ownBlock] at e
          have HI := hid hI6
          have HM6 := hid hM6
          clear hb6 hG6 hk6 hkf hI6 hM6 hbx hMx hmf2
          refine wp_go ?_
          go_wp2
          refine Go.Great.bodyPost_end0 rfl rfl ?_
          rw [Hdo2.out]
          exact ⟨rfl, s, f, M', Mf, F, _, _, _, HI.out, hC6, HM6.out, fun _ e => .inl e⟩
end Go.Proofs.YtijhicfegbaadaaDoor
/- E8: layer 10: Crash of the landed disk. -/
namespace Go.V
open Go.RowKit
theorem cr_n24 (keep : Nat) (torn cut : Int) : ∀ (p : List Ac) (i : Nat) {l : List Fl}, (∀ f ∈ l, f.n.size ≤ 24) → (∀ a ∈ p, PdOk a) → ∀ f ∈ crF keep torn cut i l p, f.n.size ≤ 24
  | [], _, _, h, _ => h
  | a :: p, i, l, h, hp => by
    rw [crF]
    refine cr_n24 keep torn cut p (i + 1) ?_ (fun b hb => hp b (by simp [hb]))
    have ha := hp a (by simp)
    unfold crS
    split
    · refine done_n24 h ⟨ha.k, ⟨by have := ha.sm.b; unfold tornF; simp; omega, ha.sm.keep, ha.sm.cut, ha.sm.m, ha.sm.nn, ha.sm.tt⟩, ha.n, ?_⟩
      have := ha.t
      unfold nrmA tornF at *
      dsimp only at *
      split <;> (try split) <;> simp_all
    · split
      · exact done_n24 h ha
      · exact h
def cX (c : Nat → Nat) (a b f : Nat) (y : Nat) : Nat := if y < a then c y else if y < b then 3 else if y = f then 2 else 4
end Go.V
namespace Go.Proofs.YtijhicfegbaadaaDoor
open Go.RowKit Go.V Go.Maps
theorem cut_p (a p : Ac) (F : Nat → Prop) (va : Value) (cut : Int) (m : Nat) (w : World) (hp : p = { a with b := a.b.take m }) (hva : Rd w F va (bys a.b)) (hm : min (max cut 0) (a.b.length : Int) = (m : Int)) (hml : m ≤ a.b.length) :
    Calls Tryd.prog 37 #[thV a va, .int .i64 cut] w fun e w' => ∃ v', e = .returned (thV p v') ∧ Rd w' F v' (bys p.b) ∧ Below w.heap.size w w' := by
  rw [hp]
  exact cut_e a F va cut m w hva hm hml
set_option maxRecDepth 100000 in
set_option maxHeartbeats 8000000 in
theorem crash_e (x s f : Nat) (Ms Mf F : Nat → Prop) (c : Nat → Nat) (d : Dk) (vp : Value) (xs : List Value) (keep : Nat) (torn cut : Int) (w : World) (h : IE w x s f Ms Mf F c d vp xs) (hs : DkSm d) (hkp : keep < 18446744073709551616) :
    Calls Tryd.prog 20 #[.pointer (some ⟨x, 0, none⟩), .agg #[.int .u64 (keep : Int), .int .i64 torn, .int .i64 cut]] w fun e w' => e = .returned (.tuple #[]) ∧ LfE w x s f Ms Mf F vp (crashF d keep torn cut) w' := by
  obtain ⟨Ap, cp, hvp⟩ := own_shape8 h.ho
  rw [hvp] at h ⊢
  clear hvp
  have Hh := hid h
  have hsn := hs.n
  have hst := hs.t
  have hpb := Blk.new' w 45 [.int .u64 (keep : Int), .int .i64 torn, .int .i64 cut]
  have hal : Below w.heap.size w (w.alloc (.cells [.int .u64 (keep : Int), .int .i64 torn, .int .i64 cut].toArray 45)) := (Below.refl _ _).alloc (Nat.le_refl _) _
  have hws : (w.alloc (.cells [.int .u64 (keep : Int), .int .i64 torn, .int .i64 cut].toArray 45)).heap.size = w.heap.size + 1 := by simp
  have h0 := h.below hal
  have c3 := h0.hb.cellAt 3 _ rfl
  have hxw : x < w.heap.size := h.hb.lt
  have hsw : s < w.heap.size := h.ms.lt
  have hMsw : ∀ y, Ms y → y < w.heap.size := fun y e => (h.cm y e).2
  have hFw : ∀ y, F y → y < w.heap.size := fun y e => (h.cF y e).2
  have hsx : s ≠ x := fun e => by have := h.cx; have := h.cs; rw [e] at this; omega
  have hX0 : FX (w.alloc (.cells [.int .u64 (keep : Int), .int .i64 torn, .int .i64 cut].toArray 45)) Ms s (crF keep torn cut 0 d.syn (d.pend.take 0)) := h0.fxs
  have H0 := hid h0
  clear h h0
  go_enter Tryd.func20, Tryd.ntmps20
  go_wp2
  clear c3
  obtain ⟨w0, hw0⟩ : ∃ u, u = w.alloc (.cells [.int .u64 (keep : Int), .int .i64 torn, .int .i64 cut].toArray 45) := ⟨_, rfl⟩
  rw [← hw0] at hpb hal H0 hws hX0 ⊢
  clear hw0
  obtain ⟨gp, hgp⟩ : ∃ g, g = w.heap.size := ⟨_, rfl⟩
  rw [← hgp] at hpb ⊢
  have hgpw : w.heap.size ≤ gp ∧ gp < w0.heap.size := by omega
  clear hgp
  go_loopw [13] (fun iv wr => ∃ (i : Nat) (M' : Nat → Prop), i ≤ d.pend.length ∧ iv = .int .i64 i ∧ FX wr M' s (crF keep torn cut 0 d.syn (d.pend.take i)) ∧ (∀ y, M' y → Ms y ∨ w0.heap.size ≤ y) ∧ Ch (gX s Ms) w0 wr) (fun i _ => d.pend.length - (intOf i).toNat)
  case atStart => exact ⟨0, Ms, Nat.zero_le _, rfl, hX0, fun _ e => .inl e, Ch.refl _ _⟩
  case round =>
    obtain ⟨i, M', hi, rfl, hX, hM', hC⟩ := hrel
    have hzr := hC.size
    have hck : ∀ y, y < w.heap.size → c y ≠ 1 → c y ≠ 3 → wr.heap[y]? = w0.heap[y]? := fun y hy h1 h3 => hC.block y (by omega) (by rintro (e | e); (have := Hh.out.cs; rw [e] at h1; omega); (have := (Hh.out.cm y e).1; omega))
    by_cases hlt : i < d.pend.length
    · obtain ⟨a0, ha⟩ : ∃ a0, d.pend[i]? = some a0 := ⟨_, List.getElem?_eq_getElem hlt⟩
      have hI : (i : Int) < (d.pend.length : Int) := by omega
      have han : (d.pend.map nrmA)[i]? = some (nrmA a0) := by rw [List.getElem?_map, ha]; rfl
      obtain ⟨b, hbb⟩ : ∃ b, b = nrmA a0 := ⟨_, rfl⟩
      rw [← hbb] at han
      have Hb := hid hbb
      have hok := Hh.out.pd a0 (List.mem_of_getElem? ha)
      have hbs : AcSm b := by rw [hbb]; exact nrm_sm hok.sm
      have hk0 : 0 ≤ a0.k := hok.k.1
      have hbk : b.k = a0.k := by rw [hbb]; exact nrm_k a0
      clear hbb
      have hor := own_keep10 H0.out.ho (fun k _ he => hck k (Hh.out.ho.lt k he).2 (by have := Hh.out.cv k he; omega) (by have := Hh.out.cv k he; omega))
      have hxr : WdX wr F apD (d.pend.map nrmA) xs := H0.out.hx.keep (fun y _ e => ⟨e, hck y (hFw y e) (by have := (Hh.out.cF y e).1; omega) (by have := (Hh.out.cF y e).1; omega)⟩)
      obtain ⟨gr, cr, cs, hve, hrg, he⟩ := own_el hor hxr han
      injection hve with hve hve2 hve3
      subst hve hve3
      obtain ⟨u, rfl, hu⟩ := ap_open he
      obtain ⟨Au, cu, rfl⟩ := hu.shape
      have hbd := cr_bd keep torn cut (d.pend.take i) 0 d.syn
      have htt := totA_take d.pend i
      rw [List.length_take] at hbd
      have hsn2 := cr_snoc keep torn cut (d.pend.take i) 0 d.syn a0
      rw [← take_snocF ha, Nat.zero_add, List.length_take, Nat.min_eq_left (by omega)] at hsn2
      obtain ⟨L, hL⟩ : ∃ L, L = crF keep torn cut 0 d.syn (d.pend.take i) := ⟨_, rfl⟩
      rw [← hL] at hX hbd hsn2
      have hLn : L.length < maxLen := by simp only [maxLen]; omega
      have hft := find_tot L b.n
      have hfl : ((findF L b.n).getD []).length ≤ 1000000000 := by omega
      have hin : IntKind.i64.wrap ((i : Int) + 1) = (i : Int) + 1 := IntWalk.i64_in _ (by omega)
      have HS2 := hid hsn2
      have Hbk := hid hbk
      clear he hor hxr han ha hL hft htt hbd hsn2 hok
      have hb6 := Blk.new' wr 60 zPe
      have hB6 : Below wr.heap.size wr (wr.alloc (.cells zPe.toArray 60)) := (Below.refl _ _).alloc (Nat.le_refl _) _
      clear hbk
      go_wp2_with (first | refine wp_ixa 55 (.tmp 11) (.tmp 13) rfl rfl rfl rfl Tryd.underlying55 hlt sizeTh ?_ | refine wp_ld 60 (.tmp 16) rfl rfl rfl hrg Tryd.underlying60 rfl sizeTh ?_ | (refine wp_new 60 rfl rfl zeroTh ?_; refine wp_stop ?_))
      refine wp_go ?_
      go_wp2_with (refine wp_st 60 (.tmp 5) (.tmp 17) rfl rfl rfl (b := wr.heap.size) (f := 0) rfl (l := apL b (.slice Au b.b.length cu)) rfl hb6 (by simp [zPe, apL]) sizeTh (one_ap _ _ _ _) ?_; intro w3 hb3 hG3; refine wp_stop ?_)
      have hb3 : Blk w3 wr.heap.size 60 (apL b (.slice Au b.b.length cu)) := hb3
      have hB3 : Below wr.heap.size wr w3 := hB6.grown hG3 hB6.size (fun k hk => by injection hk with hk; omega)
      obtain ⟨ga, hga⟩ : ∃ u, u = wr.heap.size := ⟨_, rfl⟩
      rw [← hga] at hb3 ⊢
      have hgar : wr.heap.size ≤ ga ∧ ga < w3.heap.size := ⟨by omega, hb3.lt⟩
      have hz3' := hB3.size
      have hMr : ∀ y, M' y → y < wr.heap.size := hX.2.2
      have hu3 := hu.below hB3
      have hX3 : FX w3 M' s L := ⟨hX.1.below hB3, hX.2.1, fun y e => by have := hMr y e; omega⟩
      have hgM : ¬ gX s M' ga := by
        rintro (e | e)
        · omega
        · have := hMr ga e; omega
      have hxM : ¬ gX s M' x := by
        rintro (e | e)
        · exact hsx e.symm
        · rcases hM' x e with e2 | e2
          · have := (Hh.out.cm x e2).1; have := Hh.out.cx; omega
          · omega
      have hpM : ¬ gX s M' gp := by
        rintro (e | e)
        · omega
        · rcases hM' gp e with e2 | e2
          · have := hMsw gp e2; omega
          · omega
      have hbx : Blk w3 x 57 (dcZ d s f (.slice (some ⟨gr, 0, none⟩) d.pend.length cp)) := (H0.out.hb.keep (hck x hxw (by have := Hh.out.cx; omega) (by have := Hh.out.cx; omega))).below hB3
      have hpb3 : Blk w3 gp 45 [.int .u64 (keep : Int), .int .i64 torn, .int .i64 cut] := (hpb.keep (hC.block gp hgpw.2 (by rintro (e | e); omega; (have := hMsw gp e; omega)))).below hB3
      have hC3 : Ch (gX s Ms) w0 w3 := hC.belowR hB3
      have HM' := hid hM'
      clear hX hu hrg hB3 hC hck hM' hga hG3 hb6 hB6
      refine wp_go ?_
      by_cases ht : (i : Int) = torn
      · have e0 : ((i : Int) == torn) = true := beq_iff_eq.2 ht
        have Ht := hid ht
        have z0 := hb3.cellAt 0 _ rfl
        have z1 := hb3.cellAt 1 _ rfl
        have z2 := hb3.cellAt 2 _ rfl
        have z3 := hb3.cellAt 3 _ rfl
        have q1 := hpb3.cellAt 1 _ rfl
        clear ht
        go_wp2_with (fail)
        refine (puts_any b (.slice Au b.b.length cu) _).mono ?_
        rintro e w4 ⟨rfl, hB4⟩
        clear z0 z1 z2 z3 q1
        cases hpt : putsF b with
        | true =>
          have hkc : a0.k = 0 ∨ a0.k = 1 := by
            have := of_decide_eq_true hpt
            rw [Hbk.out] at this
            exact this
          obtain ⟨m, hm, hml⟩ : ∃ m : Nat, min (max cut 0) (b.b.length : Int) = (m : Int) ∧ m ≤ b.b.length := ⟨(min (max cut 0) (b.b.length : Int)).toNat, by omega, by omega⟩
          have htk : a0.b.take (if cut < 0 then 0 else cut.toNat) = b.b.take m := by
            have h1 : b.b = a0.b := by rw [Hb.out]; unfold nrmA; rw [if_pos hkc]
            rw [h1] at hm hml ⊢
            rw [List.take_eq_take_iff]
            split <;> omega
          have hdn : Hid (crS keep torn cut L i a0 = doneF L { b with b := b.b.take m }) := hid (by
            unfold crS
            rw [if_pos ⟨Ht.out, by omega⟩, ← done_nrm L (tornF a0 cut)]
            have e1 : nrmA (tornF a0 cut) = { b with b := b.b.take m } := by
              rw [← htk, Hb.out]
              unfold nrmA tornF
              dsimp only
              rw [if_pos hkc, if_pos hkc]
            rw [e1])
          obtain ⟨p, hpe⟩ : ∃ p : Ac, p = { b with b := b.b.take m } := ⟨_, rfl⟩
          rw [← hpe] at hdn
          have hps : AcSm p := by rw [hpe]; exact ⟨by have := hbs.b; simp; omega, hbs.keep, hbs.cut, hbs.m, hbs.nn, hbs.tt⟩
          have hflp : ((findF L p.n).getD []).length ≤ 1000000000 := by rw [hpe]; exact hfl
          have Hpe := hid hpe
          clear htk hpt hkc Ht hpe
          have hbx4 := hbx.below hB4
          have hb4 := hb3.below hB4
          have hp4 := hpb3.below hB4
          have hu4 := hu3.below hB4
          have hz4 := hB4.size
          have HS : Hid (∀ W, Ch (gX s M') w4 W → W.cell? ⟨x, 1, none⟩ = some (.map (some s))) := hid fun W hc => (hbx4.ch hc hxM).cellAt 1 _ rfl
          have HA : Hid (∀ W, Ch (gX s M') w4 W → W.rangeAt ga 0 (apL b (.slice Au b.b.length cu))) := hid fun W hc => (hb4.ch hc hgM).whole
          have HQ : Hid (∀ W, Ch (gX s M') w4 W → W.cell? ⟨gp, 2, none⟩ = some (.int .i64 cut)) := hid fun W hc => (hp4.ch hc hpM).cellAt 2 _ rfl
          have HFM : Hid (∀ y, F y → ¬ M' y ∧ y ≠ s) := hid fun y e => ⟨fun e2 => by
            rcases HM'.out y e2 with e3 | e3
            · have := (Hh.out.cm y e3).1; have := (Hh.out.cF y e).1; omega
            · have := hFw y e; omega, fun e2 => by have := (Hh.out.cF y e).1; have := Hh.out.cs; rw [← e2] at this; omega⟩
          have HU : Hid (∀ W, Ch (gX s M') w4 W → Rd W F (.slice Au b.b.length cu) (bys b.b)) := hid fun W hc => hu4.ch hc (fun y e e2 => by rcases e2 with e2 | e2; exact (HFM.out y e).2 e2; exact (HFM.out y e).1 e2)
          have hX4 : FX w4 M' s L := ⟨hX3.1.below hB4, hX3.2.1, fun y e => by have := hX3.2.2 y e; omega⟩
          have HX4 : Hid (FX w4.drew M' s L) := hid ⟨hX4.1.keep rfl (fun _ _ _ => rfl), hX4.2.1, hX4.2.2⟩
          have HX5 := hid hX4
          have hC4 := hC3.belowR hB4
          have q0 := hp4.cellAt 0 _ rfl
          have q1 := hp4.cellAt 1 _ rfl
          clear hbx4 hb4 hp4 hu4 hX4 hbx hb3 hpb3 hu3 hX3 hC3 hB4 hgM hxM hpM
          go_upto_region 6 with (fail)
          refine wp_region_noPanic ?_
          refine wp_region_held_drew (S := Ch (gX s M') w4) (by kernel_rfl) ((Ch.refl _ _).drew) (fun hHeld => ?_)
          refine wpAnyH_take (i := 0) (oi := ⟨some 26, _, _, _, _, none⟩) (v := ?_) rfl (by kernel_rfl) (by kernel_rfl) (by kernel_rfl) (fun _ _ _ h => h) (Or.inl ⟨by rfl, ?_⟩) (by assumption) ?_
          rotate_left
          · intro w hSw; go_simp; try with_reducible rfl
          try simp only [Act.put, List.setIfInBounds_toArray, List.set_cons_zero, List.set_cons_succ]
          refine wpAnyH_take (i := 1) (oi := ⟨some 27, _, _, _, _, none⟩) (v := ?_) rfl (by kernel_rfl) (by kernel_rfl) (by kernel_rfl) (fun _ _ _ h => h) (Or.inl ⟨by rfl, ?_⟩) (by assumption) ?_
          rotate_left
          · intro w hSw; go_simp; try with_reducible rfl
          try simp only [Act.put, List.setIfInBounds_toArray, List.set_cons_zero, List.set_cons_succ]
          refine wpAnyH_take (i := 2) (oi := ⟨some 28, _, _, _, _, none⟩) (v := ?_) rfl (by kernel_rfl) (by kernel_rfl) (by kernel_rfl) (fun _ _ _ h => h) (Or.inl ⟨by rfl, ?_⟩) (by assumption) ?_
          rotate_left
          · intro w hSw; go_simp; try with_reducible rfl
          try simp only [Act.put, List.setIfInBounds_toArray, List.set_cons_zero, List.set_cons_succ]
          refine wpAnyH_take (i := 3) (oi := ⟨some 29, _, _, _, _, none⟩) (v := ?_) rfl (by kernel_rfl) (by kernel_rfl) (by kernel_rfl) (fun _ _ _ h => h) (Or.inl ⟨by rfl, ?_⟩) (by assumption) ?_
          rotate_left
          · intro w hSw; have hcw := HS.out w hSw; go_simp; try with_reducible rfl
          try simp only [Act.put, List.setIfInBounds_toArray, List.set_cons_zero, List.set_cons_succ]
          refine wpAnyH_take (i := 4) (oi := ⟨some 30, .load 60 (.tmp 5), _, _, _, none⟩) (v := _) rfl (by kernel_rfl) (by kernel_rfl) (by kernel_rfl) (fun _ _ _ h => h) (yieldsIf_load_mid (by rfl) 60 (.tmp 5) (by rfl) _ (0) (by rfl) _ _ (fun _ hs => HA.out _ hs) Tryd.underlying60 rfl (sizeTh)) (by assumption) ?_
          try simp only [Act.put, List.setIfInBounds_toArray, List.set_cons_zero, List.set_cons_succ]
          refine wpAnyH_take (i := 5) (oi := ⟨some 31, _, _, _, _, none⟩) (v := ?_) rfl (by kernel_rfl) (by kernel_rfl) (by kernel_rfl) (fun _ _ _ h => h) (Or.inl ⟨by rfl, ?_⟩) (by assumption) ?_
          rotate_left
          · intro w hSw; go_simp; try with_reducible rfl
          try simp only [Act.put, List.setIfInBounds_toArray, List.set_cons_zero, List.set_cons_succ]
          refine wpAnyH_take (i := 6) (oi := ⟨some 32, _, _, _, _, none⟩) (v := ?_) rfl (by kernel_rfl) (by kernel_rfl) (by kernel_rfl) (fun _ _ _ h => h) (Or.inl ⟨by rfl, ?_⟩) (by assumption) ?_
          rotate_left
          · intro w hSw; have hcw := HQ.out w hSw; go_simp; try with_reducible rfl
          try simp only [Act.put, List.setIfInBounds_toArray, List.set_cons_zero, List.set_cons_succ]
          refine wpAnyH_ready (rs := [7]) (by kernel_rfl) (by simp) ?_
          refine AllReadyH.cons (o := ⟨some 33, _, _, _, _, none⟩) rfl (fun K hK => ?_) AllReadyH.nil
          go_simp
          refine (cut_p b p F _ cut m _ Hpe.out (HU.out _ hHeld) hm hml).mono ?_
          rintro e w6 ⟨v6, rfl, hv6, hB6⟩
          obtain ⟨A6, c6, rfl⟩ := hv6.shape
          have hX6 : FX w6 M' s L := ⟨HX4.out.1.below hB6, HX4.out.2.1, fun y e => by have := HX4.out.2.2 y e; have := hB6.size; omega⟩
          refine hK.out _ _ (hHeld.belowG hB6) (fun hHeld => ?_)
          clear hK K
          try simp only [Act.put, List.setIfInBounds_toArray, List.set_cons_zero, List.set_cons_succ]
          refine wpAnyH_ready (rs := [8]) (by kernel_rfl) (by simp) ?_
          refine AllReadyH.cons (o := ⟨some 34, _, _, _, _, none⟩) rfl (fun K hK => ?_) AllReadyH.nil
          go_simp
          refine (do_e s L M' F p _ _ hX6 HFM.out hv6 hLn hps.nn hps.tt hps.b hflp).mono ?_
          rintro e w5 ⟨rfl, ⟨M5, hX5, hM5⟩, hC5⟩
          refine hK.out _ _ (hHeld.trans hC5) (fun hHeld => ?_)
          clear hK K
          try simp only [Act.put, List.setIfInBounds_toArray, List.set_cons_zero, List.set_cons_succ]
          refine wpAnyH_done (by kernel_rfl) ?_ _
          refine NoPanic.normal ?_
          have hC5q : Ch (gX s M') w4 w5 := hHeld
          have hz5 := hC5q.size
          have HX6 : Hid (FX w5 M5 s (crF keep torn cut 0 d.syn (d.pend.take (i + 1)))) := hid (by
            rw [HS2.out, hdn.out]
            exact ⟨hX5.1.perm (doM_perm L _), hX5.2⟩)
          have HM6 : Hid (∀ y, M5 y → Ms y ∨ w0.heap.size ≤ y) := hid fun y e => by
            rcases hM5 y e with e2 | e2
            · exact HM'.out y e2
            · have e2 : w4.heap.size ≤ y := Nat.le_trans hB6.size e2
              exact .inr (by omega)
          have hC6 : Ch (gX s Ms) w0 w5 := hC4.transN hC5q (by
            rintro y (e | e)
            · exact .inl (.inl e)
            · exact (HM'.out y e).imp .inr id)
          clear hX5 hM5 hC5 hC5q hHeld HX4 HX5 HU HS HA HFM HQ hC4 q0 q1
          go_wp2
          go_roundw
          case rel => exact ⟨i + 1, M5, by omega, by go_num, HX6.out, HM6.out, hC6⟩
          case measure => simp [intOf]; omega
        | false =>
          have hcS : Hid (crS keep torn cut L i a0 = if keep / 2 ^ (i % 64) % 2 = 1 then doneF L a0 else L) := hid (by
            unfold crS
            rw [if_neg (fun h => ?_)]
            have h2 := of_decide_eq_false hpt
            rw [Hbk.out] at h2
            have := h.2
            omega)
          clear hpt Ht
          have hbx4 := hbx.below hB4
          have hb4 := hb3.below hB4
          have hp4 := hpb3.below hB4
          have hu4 := hu3.below hB4
          have hz4 := hB4.size
          have HS : Hid (∀ W, Ch (gX s M') w4 W → W.cell? ⟨x, 1, none⟩ = some (.map (some s))) := hid fun W hc => (hbx4.ch hc hxM).cellAt 1 _ rfl
          have HA : Hid (∀ W, Ch (gX s M') w4 W → W.rangeAt ga 0 (apL b (.slice Au b.b.length cu))) := hid fun W hc => (hb4.ch hc hgM).whole
          have HQ : Hid (∀ W, Ch (gX s M') w4 W → W.cell? ⟨gp, 2, none⟩ = some (.int .i64 cut)) := hid fun W hc => (hp4.ch hc hpM).cellAt 2 _ rfl
          have HFM : Hid (∀ y, F y → ¬ M' y ∧ y ≠ s) := hid fun y e => ⟨fun e2 => by
            rcases HM'.out y e2 with e3 | e3
            · have := (Hh.out.cm y e3).1; have := (Hh.out.cF y e).1; omega
            · have := hFw y e; omega, fun e2 => by have := (Hh.out.cF y e).1; have := Hh.out.cs; rw [← e2] at this; omega⟩
          have HU : Hid (∀ W, Ch (gX s M') w4 W → Rd W F (.slice Au b.b.length cu) (bys b.b)) := hid fun W hc => hu4.ch hc (fun y e e2 => by rcases e2 with e2 | e2; exact (HFM.out y e).2 e2; exact (HFM.out y e).1 e2)
          have hX4 : FX w4 M' s L := ⟨hX3.1.below hB4, hX3.2.1, fun y e => by have := hX3.2.2 y e; omega⟩
          have HX4 : Hid (FX w4.drew M' s L) := hid ⟨hX4.1.keep rfl (fun _ _ _ => rfl), hX4.2.1, hX4.2.2⟩
          have HX5 := hid hX4
          have hC4 := hC3.belowR hB4
          have q0 := hp4.cellAt 0 _ rfl
          have q1 := hp4.cellAt 1 _ rfl
          clear hbx4 hb4 hp4 hu4 hX4 hbx hb3 hpb3 hu3 hX3 hC3 hB4 hgM hxM hpM
          by_cases hb1 : keep / 2 ^ (i % 64) % 2 = 1
          · have hbit : (bits BinOp.and IntKind.u64 ((keep : Int) / 2 ^ (i % 64)) 1 == 1) = true := by rw [bit_k _ _ hkp]; exact decide_eq_true hb1
            have hdn : Hid (crS keep torn cut L i a0 = doneF L b) := hid (by rw [hcS.out, if_pos hb1, Hb.out, done_nrm])
            clear hcS hb1
            go_upto_region 8 with (fail)
            clear hbit
            refine wp_region_noPanic ?_
            refine wp_region_held_drew (S := Ch (gX s M') w4) (by kernel_rfl) ((Ch.refl _ _).drew) (fun hHeld => ?_)
            refine wpAnyH_take (i := 0) (oi := ⟨some 42, _, _, _, _, none⟩) (v := ?_) rfl (by kernel_rfl) (by kernel_rfl) (by kernel_rfl) (fun _ _ _ h => h) (Or.inl ⟨by rfl, ?_⟩) (by assumption) ?_
            rotate_left
            · intro w hSw; go_simp; try with_reducible rfl
            try simp only [Act.put, List.setIfInBounds_toArray, List.set_cons_zero, List.set_cons_succ]
            refine wpAnyH_take (i := 1) (oi := ⟨some 43, _, _, _, _, none⟩) (v := ?_) rfl (by kernel_rfl) (by kernel_rfl) (by kernel_rfl) (fun _ _ _ h => h) (Or.inl ⟨by rfl, ?_⟩) (by assumption) ?_
            rotate_left
            · intro w hSw; go_simp; try with_reducible rfl
            try simp only [Act.put, List.setIfInBounds_toArray, List.set_cons_zero, List.set_cons_succ]
            refine wpAnyH_take (i := 2) (oi := ⟨some 44, _, _, _, _, none⟩) (v := ?_) rfl (by kernel_rfl) (by kernel_rfl) (by kernel_rfl) (fun _ _ _ h => h) (Or.inl ⟨by rfl, ?_⟩) (by assumption) ?_
            rotate_left
            · intro w hSw; go_simp; try with_reducible rfl
            try simp only [Act.put, List.setIfInBounds_toArray, List.set_cons_zero, List.set_cons_succ]
            refine wpAnyH_take (i := 3) (oi := ⟨some 45, _, _, _, _, none⟩) (v := ?_) rfl (by kernel_rfl) (by kernel_rfl) (by kernel_rfl) (fun _ _ _ h => h) (Or.inl ⟨by rfl, ?_⟩) (by assumption) ?_
            rotate_left
            · intro w hSw; have hcw := HS.out w hSw; go_simp; try with_reducible rfl
            try simp only [Act.put, List.setIfInBounds_toArray, List.set_cons_zero, List.set_cons_succ]
            refine wpAnyH_take (i := 4) (oi := ⟨some 46, .load 60 (.tmp 5), _, _, _, none⟩) (v := _) rfl (by kernel_rfl) (by kernel_rfl) (by kernel_rfl) (fun _ _ _ h => h) (yieldsIf_load_mid (by rfl) 60 (.tmp 5) (by rfl) _ (0) (by rfl) _ _ (fun _ hs => HA.out _ hs) Tryd.underlying60 rfl (sizeTh)) (by assumption) ?_
            try simp only [Act.put, List.setIfInBounds_toArray, List.set_cons_zero, List.set_cons_succ]
            refine wpAnyH_ready (rs := [5]) (by kernel_rfl) (by simp) ?_
            refine AllReadyH.cons (o := ⟨some 47, _, _, _, _, none⟩) rfl (fun K hK => ?_) AllReadyH.nil
            go_simp
            refine (do_e s L M' F b _ _ HX4.out HFM.out (HU.out _ hHeld) hLn hbs.nn hbs.tt hbs.b hfl).mono ?_
            rintro e w5 ⟨rfl, ⟨M5, hX5, hM5⟩, hC5⟩
            refine hK.out _ _ (hHeld.trans hC5) (fun hHeld => ?_)
            clear hK K
            try simp only [Act.put, List.setIfInBounds_toArray, List.set_cons_zero, List.set_cons_succ]
            refine wpAnyH_done (by kernel_rfl) ?_ _
            refine NoPanic.normal ?_
            have hC5q : Ch (gX s M') w4 w5 := hHeld
            have hz5 := hC5q.size
            have HX6 : Hid (FX w5 M5 s (crF keep torn cut 0 d.syn (d.pend.take (i + 1)))) := hid (by
              rw [HS2.out, hdn.out]
              exact ⟨hX5.1.perm (doM_perm L _), hX5.2⟩)
            have HM6 : Hid (∀ y, M5 y → Ms y ∨ w0.heap.size ≤ y) := hid fun y e => by
              rcases hM5 y e with e2 | e2
              · exact HM'.out y e2
              · have e2 : w4.heap.size ≤ y := e2
                exact .inr (by omega)
            have hC6 : Ch (gX s Ms) w0 w5 := hC4.transN hC5q (by
              rintro y (e | e)
              · exact .inl (.inl e)
              · exact (HM'.out y e).imp .inr id)
            clear hX5 hM5 hC5 hC5q hHeld HX4 HX5 HU HS HA HFM HQ hC4 q0 q1
            go_wp2
            go_roundw
            case rel => exact ⟨i + 1, M5, by omega, by go_num, HX6.out, HM6.out, hC6⟩
            case measure => simp [intOf]; omega
          · have hbit : (bits BinOp.and IntKind.u64 ((keep : Int) / 2 ^ (i % 64)) 1 == 1) = false := by rw [bit_k _ _ hkp]; exact decide_eq_false hb1
            have hdn : Hid (crS keep torn cut L i a0 = L) := hid (by rw [hcS.out, if_neg hb1])
            have HX6 : Hid (FX w4 M' s (crF keep torn cut 0 d.syn (d.pend.take (i + 1)))) := hid (by
              rw [HS2.out, hdn.out]
              exact HX5.out)
            clear hcS hb1 HX4 HX5 HU HS HA HFM HQ
            go_wp2
            go_roundw
            case rel => exact ⟨i + 1, M', by omega, by go_num, HX6.out, HM'.out, hC4⟩
            case measure => simp [intOf]; omega
      · have e0 : ((i : Int) == torn) = false := by simpa using ht
        have hcS : Hid (crS keep torn cut L i a0 = if keep / 2 ^ (i % 64) % 2 = 1 then doneF L a0 else L) := hid (by unfold crS; rw [if_neg (fun h => ht h.1)])
        obtain ⟨w4, hw4⟩ : ∃ u, u = w3 := ⟨_, rfl⟩
        have hB4 : Below w3.heap.size w3 w4 := by rw [hw4]; exact Below.refl _ _
        rw [← hw4]
        clear ht hw4
        have hbx4 := hbx.below hB4
        have hb4 := hb3.below hB4
        have hp4 := hpb3.below hB4
        have hu4 := hu3.below hB4
        have hz4 := hB4.size
        have HS : Hid (∀ W, Ch (gX s M') w4 W → W.cell? ⟨x, 1, none⟩ = some (.map (some s))) := hid fun W hc => (hbx4.ch hc hxM).cellAt 1 _ rfl
        have HA : Hid (∀ W, Ch (gX s M') w4 W → W.rangeAt ga 0 (apL b (.slice Au b.b.length cu))) := hid fun W hc => (hb4.ch hc hgM).whole
        have HQ : Hid (∀ W, Ch (gX s M') w4 W → W.cell? ⟨gp, 2, none⟩ = some (.int .i64 cut)) := hid fun W hc => (hp4.ch hc hpM).cellAt 2 _ rfl
        have HFM : Hid (∀ y, F y → ¬ M' y ∧ y ≠ s) := hid fun y e => ⟨fun e2 => by
          rcases HM'.out y e2 with e3 | e3
          · have := (Hh.out.cm y e3).1; have := (Hh.out.cF y e).1; omega
          · have := hFw y e; omega, fun e2 => by have := (Hh.out.cF y e).1; have := Hh.out.cs; rw [← e2] at this; omega⟩
        have HU : Hid (∀ W, Ch (gX s M') w4 W → Rd W F (.slice Au b.b.length cu) (bys b.b)) := hid fun W hc => hu4.ch hc (fun y e e2 => by rcases e2 with e2 | e2; exact (HFM.out y e).2 e2; exact (HFM.out y e).1 e2)
        have hX4 : FX w4 M' s L := ⟨hX3.1.below hB4, hX3.2.1, fun y e => by have := hX3.2.2 y e; omega⟩
        have HX4 : Hid (FX w4.drew M' s L) := hid ⟨hX4.1.keep rfl (fun _ _ _ => rfl), hX4.2.1, hX4.2.2⟩
        have HX5 := hid hX4
        have hC4 := hC3.belowR hB4
        have q0 := hp4.cellAt 0 _ rfl
        have q1 := hp4.cellAt 1 _ rfl
        clear hbx4 hb4 hp4 hu4 hX4 hbx hb3 hpb3 hu3 hX3 hC3 hB4 hgM hxM hpM
        by_cases hb1 : keep / 2 ^ (i % 64) % 2 = 1
        · have hbit : (bits BinOp.and IntKind.u64 ((keep : Int) / 2 ^ (i % 64)) 1 == 1) = true := by rw [bit_k _ _ hkp]; exact decide_eq_true hb1
          have hdn : Hid (crS keep torn cut L i a0 = doneF L b) := hid (by rw [hcS.out, if_pos hb1, Hb.out, done_nrm])
          clear hcS hb1
          go_upto_region 8 with (fail)
          clear hbit
          refine wp_region_noPanic ?_
          refine wp_region_held_drew (S := Ch (gX s M') w4) (by kernel_rfl) ((Ch.refl _ _).drew) (fun hHeld => ?_)
          refine wpAnyH_take (i := 0) (oi := ⟨some 42, _, _, _, _, none⟩) (v := ?_) rfl (by kernel_rfl) (by kernel_rfl) (by kernel_rfl) (fun _ _ _ h => h) (Or.inl ⟨by rfl, ?_⟩) (by assumption) ?_
          rotate_left
          · intro w hSw; go_simp; try with_reducible rfl
          try simp only [Act.put, List.setIfInBounds_toArray, List.set_cons_zero, List.set_cons_succ]
          refine wpAnyH_take (i := 1) (oi := ⟨some 43, _, _, _, _, none⟩) (v := ?_) rfl (by kernel_rfl) (by kernel_rfl) (by kernel_rfl) (fun _ _ _ h => h) (Or.inl ⟨by rfl, ?_⟩) (by assumption) ?_
          rotate_left
          · intro w hSw; go_simp; try with_reducible rfl
          try simp only [Act.put, List.setIfInBounds_toArray, List.set_cons_zero, List.set_cons_succ]
          refine wpAnyH_take (i := 2) (oi := ⟨some 44, _, _, _, _, none⟩) (v := ?_) rfl (by kernel_rfl) (by kernel_rfl) (by kernel_rfl) (fun _ _ _ h => h) (Or.inl ⟨by rfl, ?_⟩) (by assumption) ?_
          rotate_left
          · intro w hSw; go_simp; try with_reducible rfl
          try simp only [Act.put, List.setIfInBounds_toArray, List.set_cons_zero, List.set_cons_succ]
          refine wpAnyH_take (i := 3) (oi := ⟨some 45, _, _, _, _, none⟩) (v := ?_) rfl (by kernel_rfl) (by kernel_rfl) (by kernel_rfl) (fun _ _ _ h => h) (Or.inl ⟨by rfl, ?_⟩) (by assumption) ?_
          rotate_left
          · intro w hSw; have hcw := HS.out w hSw; go_simp; try with_reducible rfl
          try simp only [Act.put, List.setIfInBounds_toArray, List.set_cons_zero, List.set_cons_succ]
          refine wpAnyH_take (i := 4) (oi := ⟨some 46, .load 60 (.tmp 5), _, _, _, none⟩) (v := _) rfl (by kernel_rfl) (by kernel_rfl) (by kernel_rfl) (fun _ _ _ h => h) (yieldsIf_load_mid (by rfl) 60 (.tmp 5) (by rfl) _ (0) (by rfl) _ _ (fun _ hs => HA.out _ hs) Tryd.underlying60 rfl (sizeTh)) (by assumption) ?_
          try simp only [Act.put, List.setIfInBounds_toArray, List.set_cons_zero, List.set_cons_succ]
          refine wpAnyH_ready (rs := [5]) (by kernel_rfl) (by simp) ?_
          refine AllReadyH.cons (o := ⟨some 47, _, _, _, _, none⟩) rfl (fun K hK => ?_) AllReadyH.nil
          go_simp
          refine (do_e s L M' F b _ _ HX4.out HFM.out (HU.out _ hHeld) hLn hbs.nn hbs.tt hbs.b hfl).mono ?_
          rintro e w5 ⟨rfl, ⟨M5, hX5, hM5⟩, hC5⟩
          refine hK.out _ _ (hHeld.trans hC5) (fun hHeld => ?_)
          clear hK K
          try simp only [Act.put, List.setIfInBounds_toArray, List.set_cons_zero, List.set_cons_succ]
          refine wpAnyH_done (by kernel_rfl) ?_ _
          refine NoPanic.normal ?_
          have hC5q : Ch (gX s M') w4 w5 := hHeld
          have hz5 := hC5q.size
          have HX6 : Hid (FX w5 M5 s (crF keep torn cut 0 d.syn (d.pend.take (i + 1)))) := hid (by
            rw [HS2.out, hdn.out]
            exact ⟨hX5.1.perm (doM_perm L _), hX5.2⟩)
          have HM6 : Hid (∀ y, M5 y → Ms y ∨ w0.heap.size ≤ y) := hid fun y e => by
            rcases hM5 y e with e2 | e2
            · exact HM'.out y e2
            · have e2 : w4.heap.size ≤ y := e2
              exact .inr (by omega)
          have hC6 : Ch (gX s Ms) w0 w5 := hC4.transN hC5q (by
            rintro y (e | e)
            · exact .inl (.inl e)
            · exact (HM'.out y e).imp .inr id)
          clear hX5 hM5 hC5 hC5q hHeld HX4 HX5 HU HS HA HFM HQ hC4 q0 q1
          go_wp2
          go_roundw
          case rel => exact ⟨i + 1, M5, by omega, by go_num, HX6.out, HM6.out, hC6⟩
          case measure => simp [intOf]; omega
        · have hbit : (bits BinOp.and IntKind.u64 ((keep : Int) / 2 ^ (i % 64)) 1 == 1) = false := by rw [bit_k _ _ hkp]; exact decide_eq_false hb1
          have hdn : Hid (crS keep torn cut L i a0 = L) := hid (by rw [hcS.out, if_neg hb1])
          have HX6 : Hid (FX w4 M' s (crF keep torn cut 0 d.syn (d.pend.take (i + 1)))) := hid (by
            rw [HS2.out, hdn.out]
            exact HX5.out)
          clear hcS hb1 HX4 HX5 HU HS HA HFM HQ
          go_wp2
          go_roundw
          case rel => exact ⟨i + 1, M', by omega, by go_num, HX6.out, HM'.out, hC4⟩
          case measure => simp [intOf]; omega
    · have hi' : i = d.pend.length := by omega
      subst hi'
      have hI : ¬ (d.pend.length : Int) < (d.pend.length : Int) := by omega
      rw [List.take_length] at hX
      have hbd := cr_bd keep torn cut d.pend 0 d.syn
      obtain ⟨L, hL⟩ : ∃ L, L = crF keep torn cut 0 d.syn d.pend := ⟨_, rfl⟩
      rw [← hL] at hX hbd
      have HL := hid hL
      have hLn : L.length < maxLen := by simp only [maxLen]; omega
      have hLt : tot L ≤ 1000000000 := by omega
      have hbx : Blk wr x 57 [.int .i64 d.room, .map (some s), .map (some f), .slice Ap d.pend.length cp, .int .i64 (max d.fuse (-1)), .bool d.down] := H0.out.hb.keep (hck x hxw (by have := Hh.out.cx; omega) (by have := Hh.out.cx; omega))
      have c1 := hbx.cellAt 1 _ rfl
      have HX := hid hX
      have HM' := hid hM'
      have HC := hid hC
      have hcl : ∀ (s f : Nat) (vp : Value) (r u : Int) (z : Bool), [Value.int .i64 r, .map (some s), .map (some f), vp, .int .i64 u, .bool z].length = 6 := fun _ _ _ _ _ _ => rfl
      clear hL hX hM' hC hck hi hlt hbd hpb
      go_wp2_with (fail)
      refine (copied_e s L M' _ HX.out hLn hLt).mono ?_
      rintro e w4 ⟨f2, M2, rfl, hf2, hX2, hM2, hB4⟩
      have hb4 := hbx.below hB4
      have hxr := hbx.lt
      have HX2 := hid hX2
      clear hbx c1 hX2
      go_wp2_with (refine wp_st1 54 (.tmp 57) (.tmp 55) rfl rfl rfl (f := 2) rfl (v := .map (some f2)) rfl hb4 (by rw [hcl]; omega) sizeFs rfl rfl ?_; intro w5 hb5 hG5; refine wp_stop ?_)
      replace hb5 : Blk w5 x 57 [.int .i64 d.room, .map (some s), .map (some f2), .slice Ap d.pend.length cp, .int .i64 (max d.fuse (-1)), .bool d.down] := hb5
      refine wp_go ?_
      go_wp2_with (refine wp_st1 55 (.tmp 59) (.const (.slice none 0 0)) rfl rfl rfl (f := 3) rfl (v := .slice none 0 0) rfl hb5 (by rw [hcl]; omega) sizeSlTh rfl rfl ?_; intro w6 hb6 hG6; refine wp_stop ?_)
      replace hb6 : Blk w6 x 57 [.int .i64 d.room, .map (some s), .map (some f2), .slice none 0 0, .int .i64 (max d.fuse (-1)), .bool d.down] := hb6
      refine wp_go ?_
      go_wp2_with (refine wp_st1 3 (.tmp 63) (.const (.int .i64 (-1))) rfl rfl rfl (f := 4) rfl (v := .int .i64 (-1)) rfl hb6 (by rw [hcl]; omega) sizeI10 rfl rfl ?_; intro w7 hb7 hG7; refine wp_stop ?_)
      replace hb7 : Blk w7 x 57 [.int .i64 d.room, .map (some s), .map (some f2), .slice none 0 0, .int .i64 (-1), .bool d.down] := hb7
      refine wp_go ?_
      go_wp2_with (refine wp_st1 4 (.tmp 65) (.const (.bool false)) rfl rfl rfl (f := 5) rfl (v := .bool false) rfl hb7 (by rw [hcl]; omega) sizeBool rfl rfl ?_; intro w8 hb8 hG8; refine wp_stop ?_)
      have hdz : dcZ (crashF d keep torn cut) s f2 (.slice none 0 0) = [.int .i64 d.room, .map (some s), .map (some f2), .slice none 0 0, .int .i64 (-1), .bool false] := rfl
      have hb8 : Blk w8 x 57 (dcZ (crashF d keep torn cut) s f2 (.slice none 0 0)) := by rw [hdz]; exact hb8
      have hz4 := hB4.size
      have hz5 := hG5.size
      have hz6 := hG6.size
      have hz7 := hG7.size
      have hz8 := hG8.size
      have one : ∀ {a b : World}, a.grownBy b (some x) → ∀ y, y < a.heap.size → y ≠ x → b.heap[y]? = a.heap[y]? := fun h y hy hn => h.block y hy (by intro e; injection e with e; exact hn e)
      have hk8 : ∀ y, y < w4.heap.size → y ≠ x → w8.heap[y]? = w4.heap[y]? := fun y hy hn => (one hG8 y (by omega) hn).trans ((one hG7 y (by omega) hn).trans ((one hG6 y (by omega) hn).trans (one hG5 y hy hn)))
      have hzr := HC.out.size
      have hMx : ∀ y, M' y → y ≠ x := fun y e e2 => by
        rcases HM'.out y e with e3 | e3
        · have := (Hh.out.cm y e3).1; have := Hh.out.cx; rw [← e2] at this; omega
        · omega
      have hkr : ∀ y, y < wr.heap.size → y ≠ x → w8.heap[y]? = wr.heap[y]? := fun y hy hn => (hk8 y (by omega) hn).trans (hB4.block y hy)
      have hsyn : (crashF d keep torn cut).syn = L := HL.out.symm
      have hnow : nowF (crashF d keep torn cut) = L := HL.out.symm
      have hMr : ∀ y, M' y → y < wr.heap.size := HX.out.2.2
      have hsrL : srt L := by rw [HL.out]; exact srt_cr _ _ _ _ _ Hh.out.st
      have hn24 : ∀ f ∈ L, f.n.size ≤ 24 := by rw [HL.out]; exact cr_n24 _ _ _ _ _ Hh.out.nS Hh.out.pd
      have hI8 : IE w8 x s f2 M' M2 F (cX c w0.heap.size wr.heap.size f2) (crashF d keep torn cut) (.slice none 0 0) [] := {
        hb := hb8
        ms := by rw [hsyn]; exact HX.out.1.keep (hkr s HX.out.1.lt hsx) (fun y hy e => hkr y hy (hMx y e))
        mf := by rw [hnow]; exact HX2.out.1.keep (hk8 f2 HX2.out.1.lt (by omega)) (fun y hy e => hk8 y hy (by have := hM2 y e; omega))
        ho := ⟨by simp [crashF], .inl ⟨rfl, rfl⟩⟩
        hx := by simp [WdX, crashF]
        cx := by unfold cX; rw [if_pos (by omega)]; exact Hh.out.cx
        cs := by unfold cX; rw [if_pos (by omega)]; exact Hh.out.cs
        cf := by unfold cX; rw [if_neg (by omega), if_neg (by omega), if_pos rfl]
        cm := fun y e => ⟨by
          rcases HM'.out y e with e2 | e2
          · unfold cX; rw [if_pos (by have := hMsw y e2; omega)]; exact (Hh.out.cm y e2).1
          · unfold cX; rw [if_neg (by omega), if_pos (hMr y e)], by have := hMr y e; omega⟩
        cn := fun y e => ⟨by have := hM2 y e; unfold cX; rw [if_neg (by omega), if_neg (by omega), if_neg (by omega)], by have := HX2.out.2.2 y e; omega⟩
        cv := fun y e => by simp [Value.ownBlock] at e
        cF := fun y e => ⟨by unfold cX; rw [if_pos (by have := hFw y e; omega)]; exact (Hh.out.cF y e).1, by have := hFw y e; omega⟩
        st := by rw [hsyn]; exact hsrL
        dn := fun e => by cases e
        nS := by rw [hsyn]; exact hn24
        pd := fun _ e => by cases e }
      have toX : ∀ k, some x = some k → mIE x s f Ms Mf (.slice Ap d.pend.length cp) k ∨ w.heap.size ≤ k := fun k hk => .inl (.inl (by injection hk with hk; exact hk.symm))
      have hCw : Ch (mIE x s f Ms Mf (.slice Ap d.pend.length cp)) w w4 := (((Ch.refl _ w).belowR hal).transN HC.out (by
        rintro y (e | e)
        · exact .inl (.inr (.inl e))
        · exact .inl (.inr (.inr (.inr (.inl e)))))).belowR hB4
      have hC8 := (((hCw.grow hG5 toX).grow hG6 toX).grow hG7 toX).grow hG8 toX
      have hM8 : ∀ y, mIE x s f2 M' M2 (.slice none 0 0) y → mIE x s f Ms Mf (.slice Ap d.pend.length cp) y ∨ w.heap.size ≤ y := by
        rintro y (e | e | e | e | e | e)
        · exact .inl (.inl e)
        · exact .inl (.inr (.inl e))
        · exact .inr (by omega)
        · rcases HM'.out y e with e2 | e2
          · exact .inl (.inr (.inr (.inr (.inl e2))))
          · exact .inr (by omega)
        · exact .inr (by have := hM2 y e; omega)
        · simp [Value.ownBlock] at e
      have HI := hid hI8
      have HM8 := hid hM8
      clear hb4 hb5 hb6 hb7 hb8 hG5 hG6 hG7 hG8 hk8 hkr hI8 hM8 hB4 toX one hMx hM2
      refine wp_go ?_
      go_wp2
      refine Go.Great.bodyPost_end0 rfl rfl ?_
      exact ⟨rfl, s, f2, M', M2, F, _, _, _, HI.out, hC8, HM8.out, fun _ e => .inl e⟩
end Go.Proofs.YtijhicfegbaadaaDoor
/- E9: layer 10: Copy of the landed disk. -/
namespace Go.V
open Go.RowKit
theorem wp_bs0W {P : Program} {w : World} {ops : Array Oper} {rest : List Oper} {o : Oper} {a : Act} {Q : Exit → Act → World → Prop} (t e : TypeId) (sz : Nat) (hgd : o.guard = none) (ho : o.op = .buildSlice t 0 #[]) (hr : ∀ W : World, (Instr.buildSlice t 0 #[]).run P W = .ok (.slice (some ⟨W.heap.size, 0, none⟩) 0 0) (W.alloc (.cells #[] e)))
    (h : ∀ v w', w'.ownsRow w.heap.size e sz v 0 [] → Below w.heap.size w w' → wpList P ops Q rest (a.put o.dst v) w') : wpList P ops Q (o :: rest) a w := by
  refine wpList_plain hgd fun K hK => ?_
  unfold Oper.wp execOp
  have e0 : (Array.map (fun (x : Nat × Operand) => (x.1, a.eval x.2)) #[]) = #[] := by simp
  simp only [ho, e0, Sem.run_bind, Sem.run_pure, hr, Result.andThen_ok]
  exact hK _ _ (h _ _ (World.ownsRow_made w #[] 0 (Nat.le_refl _) (by simp [maxLen]) (by simp)) ((Below.refl _ _).alloc (Nat.le_refl _) _))
def cC (c : Nat → Nat) (a x s b f e : Nat) (y : Nat) : Nat := if y < a then c y else if y = x then 0 else if y = s then 1 else if y < b then 3 else if y = f then 2 else if y < e then 4 else 5
theorem one_dc (d : Dk) (s f : Nat) (A : Option Addr) (n c : Nat) : ∀ v ∈ dcZ d s f (.slice A n c), v.oneCell' = true := by
  intro v hv
  simp [dcZ] at hv
  rcases hv with rfl | rfl | rfl | rfl | rfl | rfl <;> rfl
def zDk : List Value := [.int .i64 0, .map none, .map none, .slice none 0 0, .int .i64 0, .bool false]
end Go.V
namespace Go.Proofs.YtijhicfegbaadaaDoor
open Go.RowKit Go.V Go.Maps
theorem sizeDe : (Tryd.prog.info? 57).map (·.size) = some 6 := by kernel_rfl
theorem zeroDk : (Tryd.prog.info? 57).map (·.zero) = some (some (.agg zDk.toArray)) := by kernel_rfl
end Go.Proofs.YtijhicfegbaadaaDoor
