/- C1: layer 17: the laws' table of keys, and long. -/
import Derived.Test.YtddeeigdcolegaaDoorCC
import Derived.Test.YtddeeigdcolegaaDoorCk
namespace Go.Proofs.YtddeeigdcolegaaDoor
open Go.RowKit Go.V
set_option maxRecDepth 100000 in
set_option maxHeartbeats 4000000 in
theorem table17_any (w : World) :
    Calls Tryd.prog 10 #[] w fun e w' => ∃ uk, e = .returned (.agg #[uk, .slice none 0 0]) ∧ Rd w' (fun b => w.heap.size ≤ b) uk (tx ks17) ∧ Below w.heap.size w w' := by
  obtain ⟨W0, hW0, b0, b1, hB⟩ := alloc2 w 37 37 zKs zKs
  go_enter Tryd.func10, Tryd.ntmps10
  go_wp2_with (first | (refine wp_new 37 rfl rfl zeroKs17 ?_; refine wp_stop ?_))
  refine wp_go ?_
  go_wp2_with (first | (refine wp_new 37 rfl rfl zeroKs17 ?_; refine wp_stop ?_))
  rw [← hW0]
  have hs0 : W0.heap.size = w.heap.size + 1 + 1 := by rw [hW0]; simp
  clear hW0
  obtain ⟨g1, hg1⟩ : ∃ g, g = w.heap.size + 1 := ⟨_, rfl⟩
  rw [← hg1] at b1 hs0
  first | rw [← hg1] | (rw [show (w.alloc (.cells zKs.toArray 37)).heap.size = w.heap.size + 1 from by simp, ← hg1])
  obtain ⟨g0, hg0⟩ : ∃ g, g = w.heap.size := ⟨_, rfl⟩
  rw [← hg0] at b0 ⊢
  have hw0 : w.heap.size ≤ g0 := by omega
  have h01 : g0 < g1 := by omega
  have h1s : g1 < W0.heap.size := by omega
  clear hg0 hg1 hs0
  have hOT := OT.nil W0 27 W0.heap.size nob
  refine wp_go ?_
  go_wp2
  go_loopw [3] (fun iv wr => ∃ (i : Nat) (uk : Value) (us : List Value), i ≤ 16 ∧ iv = .int .i64 i ∧ Blk wr g1 37 [uk, .slice none 0 0] ∧ Blk wr g0 37 zKs ∧ OT wr 27 W0.heap.size nob uk (kU i) us ∧ W0.heap.size ≤ wr.heap.size ∧ Below w.heap.size w wr) (fun i _ => 16 - (intOf i).toNat)
  case atStart => exact ⟨0, _, [], by omega, rfl, b1, b0, hOT, Nat.le_refl _, hB⟩
  case round =>
    clear b1 b0 hOT hB
    obtain ⟨i, uk, us, hi, rfl, b1, b0, hOT, hsz, hB⟩ := hrel
    by_cases hlt : i < 16
    · have hI : (i : Int) < 16 := by omega
      have hw8 : IntKind.u8.wrap (i : Int) = (i : Int) := by rw [IntKind.wrap_u8]; omega
      have c0 := b1.cellAt 0 _ rfl
      have hkl := kU_len i
      have Hnx := hid (kU_next i)
      go_wp2_with (first | (refine wp_bsl slB (.tmp 9) rfl rfl (u := .int .u8 (i : Int)) rfl rfl ?_; intro w2 b2 hB2; refine wp_stop ?_))
      have b2 : Blk w2 wr.heap.size 5 [byteV (UInt8.ofNat i)] := by
        have e : byteV (UInt8.ofNat i) = .int .u8 (i : Int) := by
          show (Value.int .u8 ((UInt8.ofNat i).toNat : Int)) = _
          rw [UInt8.toNat_ofNat_of_lt' (by show i < 256; omega)]
        rw [e]; exact b2
      have hrow : ∀ b, uk.ownBlock = some b → W0.heap.size ≤ b ∧ b < wr.heap.size := fun b h => hOT.own.lt b h
      obtain ⟨g2, hg2⟩ : ∃ g, g = wr.heap.size := ⟨_, rfl⟩
      rw [← hg2] at b2 hsz hrow ⊢
      have hu := rd_one (F := fun b => W0.heap.size ≤ b ∧ ¬ nob b ∧ uk.ownBlock ≠ some b) b2 ⟨hsz, fun h => h, fun h => by have := hrow _ h; omega⟩
      have hOT := hOT.ch (Ch.of_below hB2) (fun b hb => hb.elim)
      have b1 := b1.below hB2
      have b0 := b0.below hB2
      have hB := hB.trans (hB2.mono hB.size)
      have hs2 := b2.lt
      have c0 := b1.cellAt 0 _ rfl
      clear hB2 hg2
      refine wp_go ?_
      go_wp2_with (first | (refine wp_push (.tmp 7) (.tmp 10) 11 slBB8 rfl rfl rfl rfl rfl (u := .slice (some ⟨g2, 0, none⟩) 1 1) rfl rfl rfl (by simp) rfl hOT.own (by rw [hkl]; simp only [maxLen]; omega) (by rw [hkl]; omega) (by omega) ?_; intro v3 w3 ho3 hG3 hd3; refine wp_stop ?_))
      have hOT := OT.pushG hOT hu (fun b h => h.elim) ho3 hG3 hd3
      have b1 := b1.keep (hG3.block _ b1.lt (by intro e; have := hrow _ e.symm; omega))
      have b0 := b0.keep (hG3.block _ b0.lt (by intro e; have := hrow _ e.symm; omega))
      have hB := hB.grown hG3 hB.size (fun k hk => by have := hrow _ hk; have := hB.size; omega)
      have hs3 := hG3.size
      obtain ⟨A3, c3, rfl⟩ := own_shape ho3
      clear hG3 ho3 hd3 hu c0
      refine wp_go ?_
      go_wp2_with (first | (refine wp_st1 28 (.tmp 13) (.tmp 12) rfl rfl rfl (f := 0) rfl (v := .slice A3 ((kU i).length + 1) c3) rfl b1 (by show 0 < 2; omega) sizeSS8 rfl rfl ?_; intro w4 b1 G4; refine wp_stop ?_))
      have hOT := hOT.ch (G := fun b => b = g1) ((Ch.refl _ _).grow G4 (fun k hk => by injection hk with hk; exact .inl hk.symm)) (fun b hb => .inr (by omega))
      have b0 := b0.keep (G4.block _ b0.lt (by intro e; injection e with e; omega))
      have hB := hB.grown G4 hB.size (fun k hk => by injection hk with hk; omega)
      have hs4 := G4.size
      rw [← Hnx.out] at hOT
      refine wp_go ?_
      go_wp2
      go_roundw
      case rel => exact ⟨i + 1, _, _, by omega, by go_num, b1, b0, hOT, by omega, hB⟩
      case measure => simp [intOf]; omega
    · have hi' : i = 16 := by omega
      subst hi'
      have hI : ¬ (16 : Int) < 16 := by omega
      have hrd : Rd wr (fun b => W0.heap.size ≤ b) uk (tx ks17) := hOT.rd
      obtain ⟨Ak, ck, rfl⟩ := own_shape hOT.own
      go_wp2_with (first | refine wp_ld 37 (.tmp 1) rfl rfl rfl b1.whole Tryd.underlying37 rfl sizeKs17 ?_ | (refine wp_st 37 (.tmp 0) (.tmp 15) rfl rfl rfl (f := 0) rfl (l := [.slice Ak (kU 16).length ck, .slice none 0 0]) rfl b0 (by show 0 + 2 ≤ 2; omega) sizeKs17 (by intro v hv; simp at hv; rcases hv with rfl | rfl <;> rfl) ?_; intro w5 k0 G5))
      rw [set_all zKs [.slice Ak (kU 16).length ck, .slice none 0 0] rfl] at k0
      have hrd := hrd.keep (F' := fun b => w.heap.size ≤ b) (fun b hb hF => ⟨by have hF : W0.heap.size ≤ b := hF; omega, G5.block b hb (by have hF : W0.heap.size ≤ b := hF; intro e; injection e with e; omega)⟩)
      have hB := hB.grown G5 hB.size (fun k hk => by injection hk with hk; omega)
      refine ret_cell rfl rfl k0.whole Tryd.underlying37 rfl sizeKs17 rfl ?_
      exact ⟨_, rfl, hrd, hB⟩
def longC (P : List (List UInt8)) : Bool := decide (24 < P.length ∨ ∃ t ∈ P, 400 < t.length)
theorem longC_bd {P : List (List UInt8)} (h : longC P = false) : P.length ≤ 24 ∧ ∀ t ∈ P, t.length ≤ 400 := by
  unfold longC at h
  rw [decide_eq_false_iff_not] at h
  refine ⟨by omega, fun t ht => ?_⟩
  rcases Nat.lt_or_ge 400 t.length with h3 | h3
  · exact absurd (.inr ⟨t, ht, h3⟩) h
  · exact h3
set_option maxRecDepth 100000 in
set_option maxHeartbeats 2000000 in
theorem long17_any (ks : List (List UInt8)) (uk : Value) (F : Nat → Prop) (w : World) (hk : Rd w F uk (tx ks)) :
    Calls Tryd.prog 9 #[uk] w fun e w' => e = .returned (.bool (longC ks)) ∧ Below w.heap.size w w' := by
  obtain ⟨A, c, rfl, hcc, hcm⟩ := hk.slShape
  have hcl : ks.length ≤ 9223372036854775807 := by simp [maxLen] at hcm; omega
  go_enter Tryd.func9, Tryd.ntmps9
  by_cases h1 : 24 < ks.length
  · have h1I : (24 : Int) < (ks.length : Int) := by omega
    have hL : Hid (longC ks = true) := decide_eq_true (.inl h1)
    go_wp2
    go_ret
    exact ⟨by rw [hL.out]; rfl, Below.refl _ _⟩
  have h1I : ¬ (24 : Int) < (ks.length : Int) := by omega
  go_wp2
  go_loopw [9] (fun iv wr => ∃ i : Nat, i ≤ ks.length ∧ iv = .int .i64 i ∧ Hid (∀ j t, j < i → ks[j]? = some t → t.length ≤ 400) ∧ Below w.heap.size w wr) (fun i _ => ks.length - (intOf i).toNat)
  case atStart => exact ⟨0, Nat.zero_le _, rfl, fun j t hj => absurd hj (Nat.not_lt_zero _), Below.refl _ _⟩
  case round =>
    obtain ⟨i, hi, rfl, hall, hBr⟩ := hrel
    by_cases hlt : i < ks.length
    · obtain ⟨t, ht⟩ : ∃ t, ks[i]? = some t := ⟨_, List.getElem?_eq_getElem hlt⟩
      have hI : (i : Int) < (ks.length : Int) := by omega
      obtain ⟨G, off, u, rfl, hG, hcu, hu⟩ := Rd.elem (hk.below hBr) i (bys t) (by rw [List.getElem?_map, ht]; rfl)
      obtain ⟨A1, c1, rfl⟩ := hu.shape
      have Ht := hid ht
      clear ht
      by_cases h2 : 400 < t.length
      · have h2I : (400 : Int) < (t.length : Int) := by omega
        have hL : Hid (longC ks = true) := decide_eq_true (.inr ⟨t, List.mem_of_getElem? Ht.out, h2⟩)
        go_wp2
        go_ret
        exact ⟨by rw [hL.out]; rfl, hBr⟩
      · have h2I : ¬ (400 : Int) < (t.length : Int) := by omega
        go_wp2
        go_roundw
        case rel => exact ⟨i + 1, by omega, by go_num, fun j x hj hx => by
          rcases Nat.lt_or_ge j i with h | h
          · exact hall.out j x h hx
          · have : j = i := by omega
            subst this
            rw [Ht.out] at hx
            injection hx with hx
            subst hx
            omega, hBr⟩
        case measure => simp [intOf]; omega
    · have hi' : i = ks.length := by omega
      subst hi'
      have hI : ¬ (ks.length : Int) < (ks.length : Int) := by omega
      have hL : Hid (longC ks = false) := decide_eq_false (by
        rintro (h | ⟨t, ht, h⟩)
        · omega
        · obtain ⟨j, hj, he⟩ := List.mem_iff_getElem.1 ht
          have := hall.out j t hj (by rw [List.getElem?_eq_getElem hj, he])
          omega)
      go_wp2
      go_ret
      exact ⟨by rw [hL.out]; rfl, hBr⟩
end Go.Proofs.YtddeeigdcolegaaDoor
