/- Y4: layer 8: contract of the document's Copied. -/
import Derived.Test.YthejallmkcohpaaY3
namespace Go.V
open Go.RowKit
theorem mg_set37 {m : Mg} (hh : m.h.length = 32) (ub up u : Value) : (m.l ub up).set 37 u = m.l u up := by
  have : (bvs m.h ++ [ub, up]).set 32 u = bvs m.h ++ [u, up] := by
    rw [List.set_append_right _ _ (by simp [bvs, hh])]
    simp [bvs, hh]
  simpa [Mg.l] using this
theorem mg_set38 {m : Mg} (hh : m.h.length = 32) (ub up u : Value) : (m.l ub up).set 38 u = m.l ub u := by
  have : (bvs m.h ++ [ub, up]).set 33 u = bvs m.h ++ [ub, u] := by
    rw [List.set_append_right _ _ (by simp [bvs, hh])]
    simp [bvs, hh]
  simpa [Mg.l] using this
end Go.V
namespace Go.V
theorem own_keep8 {w w' : World} {base : Nat} {e : TypeId} {s : Nat} {v : Value} {n : Nat} {xs : List Value} (h : w.ownsRow base e s v n xs) (hk : ∀ k, k < w.heap.size → v.ownBlock = some k → w'.heap[k]? = w.heap[k]?) : w'.ownsRow base e s v n xs := by
  obtain ⟨h1, h2⟩ := h
  refine ⟨h1, ?_⟩
  rcases h2 with h | ⟨g, cap, cur, rfl, hg, hh, h3⟩
  · exact .inl h
  · exact .inr ⟨g, cap, cur, rfl, hg, (hk g (lt_of_block hh) rfl).trans hh, h3⟩
end Go.V
namespace Go.Proofs.Ythejallmkcohpaa
open Go.RowKit Go.V
theorem slBB8 : SlT Try.prog 25 24 (.slice none 0 0) 24 := .of Try.underlying25 (by kernel_rfl) rfl
theorem sizeSl8 : (Try.prog.info? 24).map (·.size) = some 1 := by kernel_rfl
theorem sizeSS8 : (Try.prog.info? 25).map (·.size) = some 1 := by kernel_rfl
def zM : List Value := .int .i64 0 :: .int .i64 0 :: .int .i64 0 :: .int .i64 0 :: .int .i64 0 :: (zs8 32 ++ [.slice none 0 0, .slice none 0 0])
theorem zeroM : (Try.prog.info? 27).map (·.zero) = some (some (.agg zM.toArray)) := by kernel_rfl
theorem len_zM : zM.length = 39 := by simp [zM, zs8]
set_option maxRecDepth 100000 in
set_option maxHeartbeats 4000000 in
theorem copied8_any (m : Mg) (ub up : Value) (F1 F2 : Nat → Prop) (w : World) (hh : m.h.length = 32) (hlo : longB m = false) (hub : Rd w F1 ub (bys m.b)) (hup : Rd w F2 up (tx m.ps)) :
    Calls Try.prog 8 #[m.val ub up] w fun e w' => ∃ ub' up', e = .returned (m.val ub' up') ∧ Rd w' (fun b => w.heap.size ≤ b) ub' (bys m.b) ∧ Rd w' (fun b => w.heap.size ≤ b) up' (tx m.ps) ∧ Below w.heap.size w w' := by
  obtain ⟨hb3, hp20, hpl⟩ := long_bd hlo
  obtain ⟨AB, cb, rfl⟩ := hub.shape
  obtain ⟨AP, cpp, rfl, _, _⟩ := hup.slShape
  have hub := hub.weak (F' := fun b => b < w.heap.size) (fun b h _ => h)
  have hup := hup.weak (F' := fun b => b < w.heap.size) (fun b h _ => h)
  unfold Mg.val
  have hvb := Blk.new' w 27 (m.l (.slice AB m.b.length cb) (.slice AP m.ps.length cpp))
  have hB : Below w.heap.size w (w.alloc (.cells (m.l (.slice AB m.b.length cb) (.slice AP m.ps.length cpp)).toArray 27)) := (Below.refl _ _).alloc (Nat.le_refl _) _
  have hub := hub.below hB
  have hup := hup.below hB
  clear hlo
  go_enter Try.func8, Try.ntmps8
  go_wp2_with (refine wp_new 27 rfl rfl zeroM ?_; refine wp_stop ?_)
  obtain ⟨w0, hw0⟩ : ∃ x, x = w.alloc (.cells (m.l (.slice AB m.b.length cb) (.slice AP m.ps.length cpp)).toArray 27) := ⟨_, rfl⟩
  have hs0 : w0.heap.size = w.heap.size + 1 := by rw [hw0]; simp
  rw [← hw0] at hvb hB hub hup ⊢
  clear hw0
  have hal1 : Below w0.heap.size w0 (w0.alloc (.cells zM.toArray 27)) := (Below.refl _ _).alloc (Nat.le_refl _) _
  have hz := Blk.new' w0 27 zM
  have hvb := hvb.below hal1
  have hub := hub.below hal1
  have hup := hup.below hal1
  have hB := hB.trans (hal1.mono hB.size)
  obtain ⟨w1, hw1⟩ : ∃ x, x = w0.alloc (.cells zM.toArray 27) := ⟨_, rfl⟩
  have hs1 : w1.heap.size = w0.heap.size + 1 := by rw [hw1]; simp
  rw [← hw1] at hvb hB hub hup hz ⊢
  clear hw1 hal1
  obtain ⟨gr, hgr⟩ : ∃ g, g = w.heap.size + 1 := ⟨_, rfl⟩
  rw [hs0, ← hgr] at hz
  rw [← hgr]
  obtain ⟨g, hg⟩ : ∃ g, g = w.heap.size := ⟨_, rfl⟩
  rw [← hg] at hvb ⊢
  have hlt : w.heap.size ≤ g ∧ g < gr ∧ gr < w1.heap.size ∧ w.heap.size ≤ w1.heap.size := by omega
  have hN : ∀ b, b < w.heap.size → b < w1.heap.size := by omega
  clear hg hgr hs0 hs1
  have c0 := hvb.cellAt 37 _ (mg_body hh _ _)
  refine wp_go ?_
  go_wp2_with (refine wp_app (.tmp 7) (.tmp 9) slB rfl rfl rfl (World.ownsRow_nil _ w1.heap.size _ _) rfl hub.src (oneCell_bvs _) (by simp only [maxLen]; omega) (by omega) (Nat.le_refl _) ?_; intro v2 w2 ho2 hG2 _; refine wp_stop ?_)
  have hG2 : w1.grownBy w2 none := hG2
  have ho2 : w2.ownsRow w1.heap.size 5 1 v2 m.b.length (bvs m.b) := by simpa using ho2
  have hr2 := (Rd.of_own ho2).weak (F' := fun b => w1.heap.size ≤ b ∧ b < w2.heap.size) (fun b hb h => ⟨h, hb⟩)
  have hvb := hvb.keep (hG2.block _ hvb.lt (by simp))
  have hz := hz.keep (hG2.block _ hz.lt (by simp))
  have hup := hup.keep (fun b hb hF => ⟨hF, hG2.block _ hb (by simp)⟩)
  have hB := hB.grown hG2 hB.size (fun b h => by cases h)
  have hs2 := hG2.size
  clear c0 ho2 hG2 hub
  refine wp_go ?_
  go_wp2
  go_loopw [4, 5] (fun lv iv wr => ∃ (i : Nat) (us : List Value), i ≤ m.ps.length ∧ iv = .int .i64 i ∧ wr.ownsRow w2.heap.size 24 1 lv i us ∧ TxX wr (fun b => w2.heap.size ≤ b ∧ lv.ownBlock ≠ some b) (m.ps.take i) us ∧ Blk wr g 27 (m.l (.slice AB m.b.length cb) (.slice AP m.ps.length cpp)) ∧ Blk wr gr 27 zM ∧
    Rd wr (fun b => b < w.heap.size) (.slice AP m.ps.length cpp) (tx m.ps) ∧ Rd wr (fun b => w1.heap.size ≤ b ∧ b < w2.heap.size) v2 (bys m.b) ∧ w2.heap.size ≤ wr.heap.size ∧ Below w.heap.size w wr) (fun _ i _ => m.ps.length - (intOf i).toNat)
  case atStart => exact ⟨0, [], Nat.zero_le _, rfl, World.ownsRow_nil _ _ _ _, TxX.nil _ _, hvb, hz, hup, hr2, Nat.le_refl _, hB⟩
  case round =>
    clear hvb hz hup hr2 hB
    obtain ⟨i, us, hi, rfl, hro, htx, hvb, hz, hup, hr2, hsz, hB⟩ := hrel
    have c1 := hvb.cellAt 38 _ (mg_parts hh _ _)
    by_cases hlt' : i < m.ps.length
    · obtain ⟨t, ht⟩ : ∃ t, m.ps[i]? = some t := ⟨_, List.getElem?_eq_getElem hlt'⟩
      have hI : (i : Int) < (m.ps.length : Int) := by omega
      obtain ⟨G, off, u, rfl, hG, hcu, hu⟩ := Rd.elem hup i (bys t) (by rw [List.getElem?_map, ht]; rfl)
      obtain ⟨A1, k1, rfl⟩ := hu.shape
      have htl := hpl t (List.mem_of_getElem? ht)
      have Htk := hid (take_snocT ht)
      clear ht
      go_wp2_with (refine wp_app (.tmp 18) (.tmp 23) slB rfl rfl rfl (World.ownsRow_nil _ wr.heap.size _ _) rfl hu.src (oneCell_bvs _) (by simp only [maxLen]; omega) (by omega) (Nat.le_refl _) ?_; intro v3 w3 ho3 hG3 _; refine wp_stop ?_)
      have hG3 : wr.grownBy w3 none := hG3
      have ho3 : w3.ownsRow wr.heap.size 5 1 v3 t.length (bvs t) := by simpa using ho3
      obtain ⟨A3, k3, rfl⟩ := own_shape ho3
      have hr3 := Rd.of_own ho3
      have hs3 := hG3.size
      have hvb := hvb.keep (hG3.block _ hvb.lt (by simp))
      have hz := hz.keep (hG3.block _ hz.lt (by simp))
      have hup := hup.keep (fun b hb hF => ⟨hF, hG3.block _ hb (by simp)⟩)
      have hr2 := hr2.keep (fun b hb hF => ⟨hF, hG3.block _ hb (by simp)⟩)
      have hlv := fun k hk => (hro.lt k hk).2
      have hro := own_keep8 hro (fun k hk _ => hG3.block _ hk (by simp))
      have htx := htx.keep (fun b hb hF => ⟨hF, hG3.block _ hb (by simp)⟩)
      have hB := hB.grown hG3 hB.size (fun b h => by cases h)
      clear c1 hcu hu ho3 hG3
      refine wp_go ?_
      go_wp2_with (refine wp_push (.tmp 25) (.tmp 26) 27 slBB8 rfl rfl rfl rfl rfl (u := .slice A3 t.length k3) rfl rfl rfl (by simp) rfl hro (by simp only [maxLen]; omega) (by omega) (by omega) ?_; intro v4 w4 ho4 hG4 hat4; refine wp_stop ?_)
      have hvb := hvb.keep (hG4.block _ hvb.lt (blk_row hvb hro (by decide)))
      have hz := hz.keep (hG4.block _ hz.lt (blk_row hz hro (by decide)))
      have hup := hup.keep (fun b hb hF => ⟨hF, hG4.block _ hb (fun h => by have := (hro.lt b h.symm).1; have h2 : b < w.heap.size := hF; omega)⟩)
      have hr2 := hr2.keep (fun b hb hF => ⟨hF, hG4.block _ hb (fun h => by have := (hro.lt b h.symm).1; have h2 := hF.2; omega)⟩)
      have hB := hB.grown hG4 hB.size (fun k hk => by have := (hro.lt k hk).1; omega)
      have hs4 := hG4.size
      have htx := (htx.keep (F' := fun b => w2.heap.size ≤ b ∧ v4.ownBlock ≠ some b) (fun b hb hF => ⟨⟨hF.1, by
          rcases hat4 with h | ⟨k, h, hk⟩
          · rw [h]; exact hF.2
          · rw [h]; intro h'; injection h' with h'; omega⟩, hG4.block b hb (fun h' => hF.2 h'.symm)⟩)).snoc (hr3.keep (F' := fun b => w2.heap.size ≤ b ∧ v4.ownBlock ≠ some b) (fun b hb hF => ⟨⟨by omega, by
          rcases hat4 with h | ⟨k, h, hk⟩
          · rw [h]; intro h'; have := hlv b h'; omega
          · rw [h]; intro h'; injection h' with h'; omega⟩, hG4.block b hb (by intro h'; have := hlv b h'.symm; omega)⟩))
      rw [← Htk.out] at htx
      clear hro hr3 hG4 hat4 Htk
      refine wp_go ?_
      go_wp2
      go_roundw
      case rel => exact ⟨i + 1, _, by omega, by go_num, ho4, htx, hvb, hz, hup, hr2, by omega, hB⟩
      case measure => simp [intOf]; omega
    · have hi' : i = m.ps.length := by omega
      subst hi'
      have hI : ¬ (m.ps.length : Int) < (m.ps.length : Int) := by omega
      rw [List.take_length] at htx
      have hrt := tx_own hro htx (fun b h => h.1)
      obtain ⟨A5, k5, rfl, _, _⟩ := hrt.slShape
      obtain ⟨A2, k2, rfl⟩ := hr2.shape
      have hwl : w1.heap.size ≤ w2.heap.size := by omega
      clear hro htx hup
      go_wp2_with (refine wp_st1 24 (.tmp 30) (.tmp 29) rfl rfl rfl (f := 37) rfl (v := .slice A2 m.b.length k2) rfl hvb (by rw [len_mg hh]; omega) sizeSl8 rfl rfl ?_; intro w5 hv5 hG5; refine wp_stop ?_)
      rw [mg_set37 hh] at hv5
      have hz := hz.keep (hG5.block _ hz.lt (by intro h; injection h with h; omega))
      have hrt := hrt.keep (fun b hb hF => ⟨hF, hG5.block _ hb (by intro h; injection h with h; omega)⟩)
      have hr2 := hr2.keep (fun b hb hF => ⟨hF, hG5.block _ hb (by intro h; injection h with h; have := hF.1; omega)⟩)
      have hB := hB.grown hG5 hB.size (by intro k hk; injection hk with hk; omega)
      clear hvb hG5
      refine wp_go ?_
      go_wp2_with (refine wp_st1 25 (.tmp 32) (.tmp 31) rfl rfl rfl (f := 38) rfl (v := .slice A5 m.ps.length k5) rfl hv5 (by rw [len_mg hh]; omega) sizeSS8 rfl rfl ?_; intro w6 hv6 hG6; refine wp_stop ?_)
      rw [mg_set38 hh] at hv6
      have hz := hz.keep (hG6.block _ hz.lt (by intro h; injection h with h; omega))
      have hrt := hrt.keep (fun b hb hF => ⟨hF, hG6.block _ hb (by intro h; injection h with h; omega)⟩)
      have hr2 := hr2.keep (fun b hb hF => ⟨hF, hG6.block _ hb (by intro h; injection h with h; have := hF.1; omega)⟩)
      have hB := hB.grown hG6 hB.size (by intro k hk; injection hk with hk; omega)
      clear hv5 hG6
      refine wp_go ?_
      go_wp2_with (first | (refine wp_ld 27 (.tmp 1) rfl rfl rfl hv6.whole Try.underlying27 rfl (by rw [len_mg hh]; exact sizeM) ?_) | (refine wp_st 27 (.tmp 2) (.tmp 33) rfl rfl rfl (f := 0) rfl (l := m.l (.slice A2 m.b.length k2) (.slice A5 m.ps.length k5)) rfl hz (by rw [len_mg hh, len_zM]; omega) (by rw [len_mg hh]; exact sizeM) one_mg ?_; intro w7 hv7 hG7; refine wp_stop ?_))
      have hv7 : Blk w7 gr 27 (m.l (.slice A2 m.b.length k2) (.slice A5 m.ps.length k5)) := by
        rw [List.take_zero, List.nil_append, List.drop_of_length_le (by rw [len_mg hh, len_zM]; omega), List.append_nil] at hv7
        exact hv7
      have hrt := hrt.keep (F' := fun b => w.heap.size ≤ b) (fun b hb hF => ⟨by omega, hG7.block _ hb (by intro h; injection h with h; omega)⟩)
      have hr2 := hr2.keep (F' := fun b => w.heap.size ≤ b) (fun b hb hF => ⟨by have := hF.1; omega, hG7.block _ hb (by intro h; injection h with h; have := hF.1; omega)⟩)
      have hB := hB.grown hG7 hB.size (by intro k hk; injection hk with hk; omega)
      refine wp_go ?_
      go_wp2
      refine ret_cell rfl rfl hv7.whole Try.underlying27 rfl (by rw [len_mg hh]; exact sizeM) rfl ?_
      exact ⟨_, _, rfl, hr2, hrt, hB⟩
end Go.Proofs.Ythejallmkcohpaa
