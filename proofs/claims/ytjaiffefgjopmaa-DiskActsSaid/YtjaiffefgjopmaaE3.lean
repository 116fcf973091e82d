/- E3: layer 10: names of files (the library's sort), files copied with rows of their own. -/
import Derived.Test.YtjaiffefgjopmaaE2
import Derived.Test.YtjaiffefgjopmaaDQ
import Derived.Test.YtjaiffefgjopmaaSort
namespace Go.V
open Go.RowKit
theorem enc_n (f : Fl) : Proofs.encStr (nmL f) = .string f.n := by
  unfold nmL
  show Value.string ⟨f.n.data.toList.toArray⟩ = _
  rw [Array.toArray_toList]
theorem strs_own {w : World} {base : Nat} {e : TypeId} {v : Value} {l : List ByteArray} (ho : w.ownsRow base e 1 v l.length (l.map Value.string)) : Rd w (fun b => base ≤ b) v (strs l) := by
  unfold strs Rd
  rcases ho.2 with ⟨rfl, h0⟩ | ⟨g, cap, cur, rfl, hg, hh, h1, h2, h3, h4⟩
  · have : l = [] := List.eq_nil_of_length_eq_zero h0
    subst this
    exact ⟨none, 0, rfl, Nat.le_refl _, by simp [maxLen], fun _ => rfl, fun h => absurd rfl h⟩
  · refine ⟨_, cap, rfl, h1, h2, fun h => by rw [List.eq_nil_of_length_eq_zero h]; rfl, fun _ => ⟨g, 0, rfl, hg, wdC_in _ (l.map Value.string) 0 (by simp) (fun j u hu => ?_) (fun j u d hu hd => ?_)⟩⟩
    · have := ho.cells (g := g) rfl j u hu
      rwa [add_mk] at this
    · rw [List.getElem?_map] at hu hd
      cases hq : l[j]? with
      | none => rw [hq] at hu; cases hu
      | some s =>
        rw [hq] at hu hd
        simp at hu hd
        subst hu hd
        unfold Rd
        rfl
theorem strs_shape {w : World} {F : Nat → Prop} {v : Value} {l : List ByteArray} (h : Rd w F v (strs l)) : ∃ A c, v = .slice A l.length c := by
  unfold strs Rd at h
  obtain ⟨A, c, hv, _⟩ := h
  exact ⟨A, c, hv⟩
theorem mm_hint {P : Program} {t k e : TypeId} (ht : P.underlying t = some (.map k e)) (n : Int) (W : World) : (Instr.makeMap t (some (.int .i64 n))).run P W = .ok (.map (some W.heap.size)) (W.alloc (.map #[] 0)) := by
  simp [Instr.makeMap, run_underlying ht]
  rfl
theorem strs_nil {w : World} {F : Nat → Prop} : Rd w F (.slice none 0 0) (strs []) := by
  unfold strs Rd
  exact ⟨none, 0, rfl, Nat.le_refl _, by simp [maxLen], fun _ => rfl, fun h => absurd rfl h⟩
end Go.V
namespace Go.Proofs.Ytjaiffefgjopmaa
open Go.RowKit Go.V Go.Maps
theorem slS10 : SlT Try.prog 56 9 (.string ByteArray.empty) 16 := .of Try.underlying56 (by kernel_rfl) rfl
set_option maxRecDepth 100000 in
set_option maxHeartbeats 2000000 in
theorem names_e (b : Nat) (L : List Fl) (F : Nat → Prop) (w : World) (h : FMs Try.prog 9 w F b L) (hs : srt L) (hL : L.length ≤ 1000000) (hnm : ∀ f ∈ L, f.n.size ≤ 24) :
    Calls Try.prog 45 #[.map (some b)] w fun e w' => ∃ vn, e = .returned vn ∧ Rd w' (fun y => w.heap.size ≤ y) vn (strs (L.map Fl.n)) ∧ Below w.heap.size w w' := by
  obtain ⟨F1, hF1⟩ : ∃ F1 : Nat → Prop, F1 = fun x => x < w.heap.size := ⟨_, rfl⟩
  have h := h.weak (F' := F1) (fun x hx _ => by rw [hF1]; exact hx)
  have hFr : ∀ y, w.heap.size ≤ y → ¬ F1 y := fun y hy => by rw [hF1]; intro (h : y < w.heap.size); omega
  have hbl := h.lt
  have Hnm := hid hnm
  clear hF1 hnm
  go_enter Try.func45, Try.ntmps45
  go_wp2_with (first | (at_range; refine wp_rangeF 61 29 (.tmp 5) rfl rfl Try.underlying9 Try.underlying61 rfl h ?_; intro w1 hr1 hg1 hs1) | go_in)
  go_frame
  have hB1 : Below w.heap.size w w1 := (Below.refl _ _).grown hg1 (Nat.le_refl _) (fun k hk => by cases hk)
  obtain ⟨r, hr⟩ : ∃ r, r = w.heap.size := ⟨_, rfl⟩
  have hFrr : ¬ F1 r := hFr r (by omega)
  obtain ⟨B, hB0⟩ : ∃ B, B = w1.heap.size := ⟨_, rfl⟩
  have hrB : r < B := by omega
  have hbr : b < B := by omega
  have hwB : w.heap.size ≤ B := by omega
  have hB1s : B ≤ w1.heap.size := by omega
  have hwr : w.heap.size ≤ r := by omega
  have hFB : ∀ y, B ≤ y → ¬ F1 y := fun y hy => hFr y (by omega)
  rw [← hr] at hr1 ⊢
  clear hr hs1 hg1 hB0 hFr hbl h
  go_loopw [3] (fun nv wr => ∃ dn rs : List Fl, L.Perm (dn ++ rs) ∧ FRs Try.prog 9 wr F1 b r dn rs ∧ wr.ownsRow B 9 1 nv dn.length (dn.map fun f => Value.string f.n) ∧ B ≤ wr.heap.size ∧ Below w.heap.size w wr) (fun _ wr => wr.rangeLeft b r)
  case atStart => exact ⟨[], L, .refl _, hr1, World.ownsRow_nil _ _ _ _, hB1s, hB1⟩
  case round =>
    obtain ⟨dn, rs, hp, hR, ho, hBs, hB⟩ := hrel
    have hB2 := hB.size
    go_wp2_with (first | (at_next; refine wp_nextF (.tmp 6) rfl rfl Try.underlying9 rfl hR hFrr ?_ ?_) | go_in)
    · intro hrs
      subst hrs
      rw [List.append_nil] at hp
      have hss := srt_names hs ((hp.symm.map nmL))
      have hpl := hp.length_eq
      have hmm : (dn.map fun f => Value.string f.n) = (dn.map nmL).map Proofs.encStr := by
        rw [List.map_map]
        exact List.map_congr_left (fun f _ => (enc_n f).symm)
      have hmL : (L.map Fl.n).map Value.string = (L.map nmL).map Proofs.encStr := by
        rw [List.map_map, List.map_map]
        exact List.map_congr_left (fun f _ => (enc_n f).symm)
      have Hmm := hid hmm
      have HmL := hid hmL
      have Hss := hid hss
      clear hmm hmL hss
      rcases ho.2 with ⟨hv, hn⟩ | ⟨g, cap, cur, hv, hbase, hb, h1, h2, h3, h4⟩
      · subst hv
        have hL0 : L = [] := List.eq_nil_of_length_eq_zero (by omega)
        clear Hss HmL Hmm
        go_wp2_with (fail)
        refine (Try.slices_Sort_string_none _ _ _).mono ?_
        rintro e w3 ⟨rfl, rfl⟩
        go_wp2
        go_ret
        exact ⟨_, rfl, by rw [hL0]; exact strs_nil, hB⟩
      · subst hv
        have hH : Go.Sort.Holds Proofs.encStr wr g 0 (dn.map nmL).toArray := holds_of_block hb (by rw [← Hmm.out, List.length_map]; simpa using h4)
        have hgl : g < wr.heap.size := (Array.getElem?_eq_some_iff.1 hb).1
        have hsort := Try.slices_Sort_string g 0 cap (dn.map nmL) wr hH hgl (by rw [List.length_map]; omega)
        rw [Hss.out, List.length_map] at hsort
        have Hsort := hid hsort
        clear hsort hH
        go_wp2_with (fail)
        refine Hsort.out.mono ?_
        rintro e w3 ⟨rfl, n, os, rfl⟩
        have hown := ownsRow_sorted (n := n) (os := os) (ss := dn.map nmL) (ts := L.map nmL) (by simp; omega) hbase hb (by simpa using h1) h2 h3
        have hgr := grownBy_sorted (w := wr) (g := g) (n := n) (os := os) (L.map nmL).toArray
        have hB3 := hB.grown hgr hB2 (fun k hk => by injection hk with hk; omega)
        obtain ⟨w3, hw3⟩ : ∃ w3, w3 = Go.Sort.grow (Go.Sort.putRow Proofs.encStr (Go.Sort.ahead wr n) g 0 (L.map nmL).toArray) os := ⟨_, rfl⟩
        rw [← hw3] at hown hB3 ⊢
        clear hw3 hgr Hsort
        go_wp2
        go_ret
        refine ⟨_, rfl, ?_, hB3⟩
        have hl2 : (dn.map nmL).length = (L.map Fl.n).length := by simp; omega
        rw [← HmL.out, hl2] at hown
        have := strs_own hown
        rw [List.length_map] at this
        rw [show dn.length = L.length from by omega]
        exact this.weak (fun y _ hy => Nat.le_trans hwB hy)
    · intro f rs' A c w2 hpp hR2 hv hlt hg2 hs2 hen
      have hp2 : L.Perm (dn ++ [f] ++ rs') := hp.trans (by rw [List.append_assoc]; exact hpp.append_left dn)
      have hdl : dn.length + 1 ≤ L.length := by
        have := hp2.length_eq
        simp at this
        omega
      have hf24 : f.n.size ≤ 24 := Hnm.out f (hp2.mem_iff.2 (by simp))
      have ho2 := own_keep10 ho (fun k hk e => hg2.block k hk (by intro e2; injection e2 with e2; have := (ho.lt k e).1; omega))
      have hB3 := hB.grown hg2 hB2 (fun k hk => by injection hk with hk; omega)
      have hBs2 : B ≤ w2.heap.size := by omega
      have Hp2 := hid hp2
      have hRb := hR2.owns.lt
      have hRr : r < w2.heap.size := by obtain ⟨_, _, _, _, _, _, _, h3, _⟩ := hR2; exact h3.lt
      have hB3s := hB3.size
      clear hs2 hpp hp hp2 hB hR hg2 ho hB2 hBs
      go_wp2_with (fail)
      refine (sclone_any f.n _ (by simp only [maxLen]; omega) (by omega)).mono ?_
      rintro e w3 ⟨rfl, hBc⟩
      have hR3 := hR2.keep (F' := F1) (hBc.block b hRb) (hBc.block r hRr) (fun y hy hF => ⟨hF, hBc.block y hy⟩)
      have ho3 := own_keep10 ho2 (fun k hk _ => hBc.block k hk)
      have hB4 := hB3.trans (hBc.mono hB3s)
      have hBs3 : B ≤ w3.heap.size := Nat.le_trans hBs2 hBc.size
      have hb3 : b < w3.heap.size := Nat.lt_of_lt_of_le hRb hBc.size
      have hr3 : r < w3.heap.size := Nat.lt_of_lt_of_le hRr hBc.size
      have hlt3 : w3.rangeLeft b r < wr.rangeLeft b r := by rw [hR3.2]; exact hlt
      clear hR2 ho2 hBc hRb hRr hBs2 hlt hen hv hB3
      go_wp2_with (refine wp_push (.tmp 11) (.tmp 13) 14 slS10 rfl rfl rfl rfl rfl (u := .string f.n) rfl rfl rfl (by simp) rfl ho3 (by simp only [maxLen]; omega) (by omega) hBs3 ?_; intro v4 w4 ho4 hG4 hd4; refine wp_stop ?_)
      have hkk : ∀ y, y < w3.heap.size → y < B → w4.heap[y]? = w3.heap[y]? := fun y hy hyB => hG4.block y hy (fun e => by have := (ho3.lt y e.symm).1; omega)
      have hR4 := hR3.1.keep (F' := F1) (hkk b hb3 hbr) (hkk r hr3 hrB) (fun y hy hF => ⟨hF, hkk y hy (by rcases Nat.lt_or_ge y B with h | h; exact h; exact absurd hF (hFB y h))⟩)
      have hB5 := hB4.grown hG4 hB4.size (fun k hk => by have := (ho3.lt k hk).1; omega)
      have ho4 : w4.ownsRow B 9 1 v4 (dn ++ [f]).length ((dn ++ [f]).map fun f => Value.string f.n) := by rw [List.length_append, List.map_append]; exact ho4
      have hBs4 : B ≤ w4.heap.size := Nat.le_trans hBs3 hG4.size
      clear hR3 ho3 hG4 hd4 hB4 hkk
      refine wp_go ?_
      go_wp2
      go_roundw
      case rel => exact ⟨dn ++ [f], rs', Hp2.out, hR4.1, ho4, hBs4, hB5⟩
      case measure => rw [hR4.2]; exact hlt3
set_option maxRecDepth 100000 in
set_option maxHeartbeats 2000000 in
theorem copied_e (b : Nat) (L : List Fl) (M : Nat → Prop) (w : World) (h : FX w M b L) (hL : L.length < maxLen) (ht : tot L ≤ 1000000000) :
    Calls Try.prog 43 #[.map (some b)] w fun e w' => ∃ g M', e = .returned (.map (some g)) ∧ w.heap.size ≤ g ∧ FX w' M' g L ∧ (∀ y, M' y → g < y) ∧ Below w.heap.size w w' := by
  obtain ⟨hO, hMb, hMw⟩ := h
  obtain ⟨F1, hF1⟩ : ∃ F1 : Nat → Prop, F1 = fun x => x < w.heap.size := ⟨_, rfl⟩
  have h := hO.fms.weak (F' := F1) (fun x hx _ => by rw [hF1]; exact hx)
  have hFr : ∀ x, w.heap.size ≤ x → ¬ F1 x := fun x hx => by rw [hF1]; intro (h : x < w.heap.size); omega
  have hbl := h.lt
  have hmm := fun (n : Int) (W : World) => mm_hint (P := Try.prog) (t := 61) Try.underlying61 n W
  have hal : Below w.heap.size w (w.alloc (.map #[] 0)) := (Below.refl _ _).alloc (Nat.le_refl _) _
  have hG := FO.made (P := Try.prog) (k := 9) (e := 5) (w := w) (M := fun _ => False) (ok := anyN)
  have h0 := h.below hal
  have huq := h.uq (string_keyed Try.underlying9)
  have hfl := h
  clear hF1 hO hMb hMw
  go_enter Try.func43, Try.ntmps43
  go_wp2_with (first | (at_len; refine wp_lenF 61 29 (.tmp 6) rfl rfl Try.underlying61 rfl hfl ?_) | (at_range; refine wp_rangeF 61 29 (.tmp 9) rfl rfl Try.underlying9 Try.underlying61 rfl h0 ?_; intro w1 hr1 hg1 hs1) | go_in)
  go_frame
  obtain ⟨w0, hw0⟩ : ∃ x, x = w.alloc (.map #[] 0) := ⟨_, rfl⟩
  have hw0s : w0.heap.size = w.heap.size + 1 := by rw [hw0]; simp
  rw [← hw0] at hG hal hr1 hg1 hs1 ⊢
  clear hw0 hmm h0
  have hB1 : Below w.heap.size w w1 := hal.grown hg1 (by omega) (fun k hk => by cases hk)
  have hG1 := hG.keep (hg1.block _ hG.lt (by simp)) (fun x hx hF => hF.elim)
  obtain ⟨g, hg⟩ : ∃ g, g = w.heap.size := ⟨_, rfl⟩
  obtain ⟨r, hr⟩ : ∃ r, r = w0.heap.size := ⟨_, rfl⟩
  rw [← hr] at hr1 ⊢
  rw [← hg] at hG1 ⊢
  have hgr : g < r := by omega
  have hgw : w.heap.size ≤ g := by omega
  have hbg : b < g := by omega
  have hFg : ¬ F1 g := hFr g hgw
  have hFrr : ¬ F1 r := hFr r (by omega)
  have hrw : r < w1.heap.size := by omega
  clear hg hr hs1 hg1 hG hal hw0s hFr hbl
  go_loopw [5] (fun _ wr => ∃ (dn rs : List Fl) (M' : Nat → Prop), L.Perm (dn ++ rs) ∧ FRs Try.prog 9 wr F1 b r dn rs ∧ FO Try.prog 9 5 wr M' anyN g dn ∧ (∀ y, M' y → r < y ∧ y < wr.heap.size) ∧ r < wr.heap.size ∧ Below w.heap.size w wr) (fun _ wr => wr.rangeLeft b r)
  case atStart => exact ⟨[], L, _, .refl _, hr1, hG1, fun _ h => h.elim, hrw, hB1⟩
  case round =>
    obtain ⟨dn, rs, M', hp, hR, hM, hM', hrwr, hB⟩ := hrel
    have hB2 := hB.size
    go_wp2_with (first | (at_next; refine wp_nextF (.tmp 10) rfl rfl Try.underlying9 rfl hR hFrr ?_ ?_) | go_in)
    · intro hrs
      subst hrs
      rw [List.append_nil] at hp
      go_wp2
      go_ret
      exact ⟨g, M', rfl, hgw, ⟨hM.perm hp.symm, fun e => by have := (hM' g e).1; omega, fun y hy => (hM' y hy).2⟩, fun y hy => by have := (hM' y hy).1; omega, hB⟩
    · intro f rs' A c w2 hpp hR2 hv hlt hg2 hs2 hen
      have hp2 : L.Perm (dn ++ [f] ++ rs') := hp.trans (by rw [List.append_assoc]; exact hpp.append_left dn)
      have hM2 := hM.keep (hg2.block g hM.lt (by intro e; injection e with e; omega)) (fun y hy hF => hg2.block y hy (by intro e; injection e with e; have := (hM' y hF).1; omega))
      have hfn : f.n.size ≤ maxLen := hR2.owns.name f (by simp)
      have hfb : f.b.length ≤ 1000000000 := by have := tot_mem (hp2.mem_iff.2 (by simp : f ∈ dn ++ [f] ++ rs')); omega
      have hdl : dn.length < maxLen := by
        have := hp2.length_eq
        simp at this
        omega
      have hwo : woF dn f.n = dn := wo_none (fun x hx e => by
        have h1 : ((dn ++ [f] ++ rs').map Fl.n).Nodup := (hp2.map _).nodup_iff.1 huq
        rw [List.append_assoc, List.map_append, List.nodup_append] at h1
        exact h1.2.2 x.n (List.mem_map_of_mem hx) f.n (by simp) e)
      have hB3 := hB.grown hg2 hB2 (fun k hk => by injection hk with hk; omega)
      have Hp2 := hid hp2
      have Hwo := hid hwo
      have hRb := hR2.owns.lt
      have hRr : r < w2.heap.size := by omega
      have hB3s := hB3.size
      have hM2' : ∀ y, M' y → r < y ∧ y < w2.heap.size := fun y hy => by have := hM' y hy; omega
      clear hs2 hpp hp hp2 hB hR hg2 hM hwo hM' hrwr
      go_wp2_with (fail)
      refine (bclone_any f.b F1 _ _ hv hfb).mono ?_
      rintro e w3 ⟨v5, rfl, ho5, hB5⟩
      have hR3 := hR2.keep (F' := F1) (hB5.block b hRb) (hB5.block r hRr) (fun y hy hF => ⟨hF, hB5.block y hy⟩)
      have hM3 := (hM2.below hB5).weak (M' := M') (ok' := notN f.n) (fun y _ h => h) (fun _ _ => trivial)
      have hv5 : ∀ y, v5.ownBlock = some y → ¬ M' y ∧ y ≠ g := fun y hy => by
        have := (ho5.lt y hy).1
        exact ⟨fun e => by have := (hM2' y e).2; omega, by omega⟩
      have hx5 : ∀ y, v5.ownBlock = some y → r < y ∧ y < w3.heap.size := fun y hy => by have := ho5.lt y hy; omega
      have hMg : ¬ M' g := fun e => by have := (hM2' g e).1; omega
      have hz5 := hB5.size
      have hB4 := hB3.trans (hB5.mono hB3s)
      have hlt3 : w3.rangeLeft b r < wr.rangeLeft b r := by rw [hR3.2]; exact hlt
      obtain ⟨A5, c5, rfl⟩ := own_shape8 ho5
      replace ho5 := own_weak (base' := 0) ho5 (Nat.zero_le _)
      clear hR2 hM2 hB5 hlt hv hB3 hen
      go_wp2_with (first | (at_mapUpdate; refine wp_putO 61 29 (.tmp 16) (.tmp 17) (.tmp 19) rfl rfl Try.underlying9 Try.underlying61 rfl hM3 hdl rfl hfn rfl ho5 hv5 hMg ?_; intro w4 hM4 hg4 hs4) | go_in)
      have hB6 := hB4.grown hg4 hB4.size (fun k hk => by injection hk with hk; omega)
      have hR4 := hR3.1.keep (F' := F1) (hg4.block b (by omega) (by intro e; injection e with e; omega)) (hg4.block r (by omega) (by intro e; injection e with e; omega)) (fun x hx hF => ⟨hF, hg4.block x hx (by intro e; injection e with e; subst e; exact hFg hF)⟩)
      have hM5 : FO Try.prog 9 5 w4 (fun y => M' y ∨ (Value.slice A5 f.b.length c5).ownBlock = some y) anyN g (dn ++ [f]) := (by rw [Hwo.out] at hM4; exact hM4.perm (List.perm_append_comm (l₁ := [f])))
      have hM6 : ∀ y, (M' y ∨ (Value.slice A5 f.b.length c5).ownBlock = some y) → r < y ∧ y < w4.heap.size := by
        rintro y (e | e)
        · have := hM2' y e; omega
        · have := hx5 y e; omega
      have hr4 : r < w4.heap.size := by omega
      have hlt4 : w4.rangeLeft b r < wr.rangeLeft b r := by rw [hR4.2]; exact hlt3
      have HR4 := hid hR4.1
      have HM6 := hid hM6
      clear hs4 hM4 hM3 hR3 hg4 hB4 hlt3 hR4 hM6 hx5 hv5
      go_frame
      go_wp2
      go_roundw
      case rel => exact ⟨dn ++ [f], rs', _, Hp2.out, HR4.out, hM5, HM6.out, hr4, hB6⟩
      case measure => exact hlt4
end Go.Proofs.Ytjaiffefgjopmaa
