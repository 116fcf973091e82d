/- NI: layer 18: contracts of sealsOf and New. -/
import Derived.Test.YthbbpfnfnnmdnaaDoorLW
import Derived.Test.YthbbpfnfnnmdnaaDoorCr
import Derived.Lib.MinMax
namespace Go.V
open Go.RowKit Go.Maps Go.ChangeShapes Go.WideShapes Go.ChangeMaps
section
variable {P : Program} {w : World} {ops : Array Oper} {o : Oper} {a : Act} {K : Act → World → Prop} {Q : Exit → Act → World → Prop} {E : Prop}
/-- 'make(map)', in a region that draws its order -/
theorem step_mm18 (t : TypeId) (hgd : o.guard = none) (ho : o.op = .makeMap t none)
    (h : ∀ g w', w.heap.size ≤ g → g < w'.heap.size → w'.heap[g]? = some (.map #[] 0) → Below w.heap.size w w' → K (a.put o.dst (.map (some g))) w') : if Region.wanted o (yielded ops a.tmps) = true then Oper.wp P o a w K Q else E := by
  have hw : Region.wanted o (yielded ops a.tmps) = true := by simp [Region.wanted, hgd]
  rw [if_pos hw]
  unfold Oper.wp execOp
  simp only [ho, Option.map_none, Sem.run_bind, Sem.run_pure, run_makeMap, Result.andThen_ok]
  exact h w.heap.size (w.alloc (.map #[] 0)) (Nat.le_refl _) (by simp) (heap_alloc_new w _) ((Below.refl _ _).alloc (Nat.le_refl _) _)
end
theorem MpS.empty {P : Program} {k : TypeId} {κ β : Type} {T : MK P k κ β} {w : World} {F : Nat → Prop} {g : Nat} (h : w.heap[g]? = some (.map #[] 0)) : MpS T w F g [] := by
  obtain ⟨es, clock, hb, Fi, hs, hD⟩ := World.ownsMap_made w P k (heldA)
  have e1 := (MapKept.heap_alloc w (.map #[] 0)).1
  rw [e1] at hb
  injection hb with hb
  injection hb with h1 h2
  subst h1 h2
  exact ⟨[], [], rfl, ⟨_, _, h, Fi, hs, hD⟩, .refl _, fun p hp => by cases hp⟩
end Go.V
namespace Go.Proofs.YthbbpfnfnnmdnaaDoor
open Go.RowKit Go.V Go.Maps
theorem bldIn18 (A : Option Addr) (a c : Nat) (n m slot : Int) (g5 g6 g7 : Nat) : ∀ W : World, (Instr.build 65 #[(0, .agg #[.slice A a c, .slice none 0 0]), (1, .agg #[.int .i64 n, .int .u16 m]), (2, .int .i64 slot), (3, .map (some g5)), (4, .map (some g6)), (5, .map (some g7))]).run Tryd.prog W = .ok (.agg #[.slice A a c, .slice none 0 0, .int .i64 n, .int .u16 m, .int .i64 slot, .map (some g5), .map (some g6), .map (some g7)]) W := fun _ => by kernel_rfl
set_option maxRecDepth 100000 in
set_option maxHeartbeats 16000000 in
theorem inew18_any (ks : List (List UInt8)) (V : Vc) (slot : Int) (uk ur : Value) (F : Nat → Prop) (w : World) (_hKS : KS w) (hks : KsSm ks) (hk : Rd w F uk (tx ks)) (hV : in64w V.n ∧ V.m < 65536) (_hs : in64w slot) :
    Calls Tryd.prog 9 #[.agg #[uk, ur], vw V.n V.m, .int .i64 slot] w fun e w' => ∃ v M, e = .returned v ∧ NX w' v M (fun b => F b ∧ b < w.heap.size) ks V slot [] ∧ (∀ b, M b → w.heap.size ≤ b) ∧ Below w.heap.size w w' := by
  obtain ⟨n, m⟩ := V
  have hvb := hV.2
  dsimp only at hvb
  obtain ⟨W0, hW0, b3, b4, hB0⟩ := alloc2 w 33 24 [uk, ur] [.int .i64 n, .int .u16 (m : Int)]
  have hk := hk.below hB0
  have hsl : Hid (∀ W, Rd W F uk (tx ks) → Calls Tryd.prog 19 #[.agg #[uk, ur]] W fun e w' => ∃ v' s1, e = .returned (.agg #[v', .slice none 0 0]) ∧ s1 = W.heap.size ∧ Rd w' (fun b => s1 ≤ b) v' (tx (ks.take 16)) ∧ Below W.heap.size W w') := hid (fun W h => (seals18_any ks uk ur F W hks h).mono (fun e w' ⟨v, h1, h2, h3⟩ => ⟨v, _, h1, rfl, h2, h3⟩))
  obtain ⟨Kl, hK⟩ : ∃ Kl, Kl = ks.take 16 := ⟨_, rfl⟩
  rw [← hK] at hsl
  have hs0 := hB0.size
  have hFIN : Hid (∀ (w' : World) (p g5 g6 g7 : Nat) (v8 : Value) (F8 : Nat → Prop), Blk w' p 65 (iC v8 ⟨n, m⟩ slot g5 g6 g7) → Rd w' F8 v8 (tx Kl) → w'.heap[g6]? = some (.map #[] 0) → w'.heap[g7]? = some (.map #[] 0) → g6 ≠ g7 → g6 < p → g7 < p → (∀ b, F8 b → b ≠ p ∧ b ≠ g6 ∧ b ≠ g7 ∧ b < w'.heap.size ∧ W0.heap.size ≤ b) → W0.heap.size ≤ p → W0.heap.size ≤ g6 → W0.heap.size ≤ g7 → Below W0.heap.size W0 w' →
      ∃ v M, Ending.returned (.pointer (some ⟨p, 0, none⟩)) = .returned v ∧ NX w' v M (fun b => F b ∧ b < w.heap.size) ks ⟨n, m⟩ slot [] ∧ (∀ b, M b → w.heap.size ≤ b) ∧ Below w.heap.size w w') := hid (fun w' p g5 g6 g7 v8 F8 hb hr he6 he7 h67 h6 h7 hF hp' h6' h7' hB => by
    have hBe := hB0.trans (hB.mono hs0)
    have hse := hBe.size
    refine ⟨_, fun x => x = p ∨ x = g6 ∨ x = g7 ∨ F8 x, rfl, ⟨fun b hb => by have := hb.2; omega, p, g5, g6, g7, v8, F8, rfl, ⟨hb, by rw [← hK]; exact hr, MpS.empty he6, ⟨[], MpS.empty he7, BR.nil⟩, NvIn.nil _ _ _, hvb, ⟨by omega, by omega, h67⟩, fun x hx => ⟨(hF x hx).1, (hF x hx).2.1, (hF x hx).2.2.1, (hF x hx).2.2.2.1⟩⟩, fun x => Iff.rfl⟩, ?_, hBe⟩
    rintro x (rfl | rfl | rfl | hx)
    · omega
    · omega
    · omega
    · have := (hF x hx).2.2.2.2
      omega)
  clear hK hks hV
  unfold vw
  go_enter Tryd.func9, Tryd.ntmps9
  go_upto_region 1 with (fail)
  first | rw [← hW0] | (simp only [List.toArray] at hW0 ⊢; rw [← hW0])
  clear hW0
  obtain ⟨g4, hg4⟩ : ∃ g, g = w.heap.size + 1 := ⟨_, rfl⟩
  rw [← hg4] at b4 ⊢
  obtain ⟨g3, hg3⟩ : ∃ g, g = w.heap.size := ⟨_, rfl⟩
  rw [← hg3] at b3 ⊢
  clear hg3 hg4
  have HK : Hid (∀ W, Ch nob W0 W → W.rangeAt g3 0 [uk, ur]) := hid fun W hc => b3.chAt (fun h => h) hc
  have HV : Hid (∀ W, Ch nob W0 W → W.rangeAt g4 0 [.int .i64 n, .int .u16 (m : Int)]) := hid fun W hc => b4.chAt (fun h => h) hc
  have HRk : Hid (∀ W, Ch nob W0 W → Rd W F uk (tx ks)) := hid fun W hc => hk.below hc.below
  clear b3 b4 hk hB0 hs0
  refine wp_region_noPanic ?_
  refine wp_region_held_drew (S := Ch nob W0) (by kernel_rfl) ((Ch.refl _ _).drew) (fun hHeld => ?_)
  refine tkY 0 rfl (yieldsIf_load_mid (by rfl) 33 (.tmp 3) (by rfl) _ (0) (by rfl) _ _ (fun _ hs => HK.out _ hs) Tryd.underlying33 rfl (sizeKs17)) ?_
  refine tkY 2 rfl (yieldsIf_load_mid (by rfl) 24 (.tmp 4) (by rfl) _ (0) (by rfl) _ _ (fun _ hs => HV.out _ hs) Tryd.underlying24 rfl (sizeVw17)) ?_
  refine tkP 3 rfl ?_
  all_goals first
    | (refine wpAnyH_ready (rs := [1, 4, 5, 6]) (by kernel_rfl) (by simp) (AllReadyH.cons (o := ⟨some 8, _, _, _, _, none⟩) rfl (fun K hK => ?_) (AllReadyH.cons (o := ⟨some 11, .makeMap _ _, _, _, _, none⟩) rfl (fun K hK => ?_) (AllReadyH.cons (o := ⟨some 12, .makeMap _ _, _, _, _, none⟩) rfl (fun K hK => ?_) (AllReadyH.cons (o := ⟨some 13, .makeMap _ _, _, _, _, none⟩) rfl (fun K hK => ?_) AllReadyH.nil)))))
  all_goals first
    | (refine step_mm18 61 (by rfl) (by rfl) ?_
       intro g5 w5 hg5 l5 e5 B5
       have hw5 : W0.heap.size ≤ g5 := Nat.le_trans hHeld.size hg5
       try have d5_6 : g5 ≠ g6 := (Nat.ne_of_lt (Nat.lt_of_lt_of_le l6 hg5)).symm
       try have d5_7 : g5 ≠ g7 := (Nat.ne_of_lt (Nat.lt_of_lt_of_le l7 hg5)).symm
       try have hq5 : w1.heap.size ≤ g5 := Nat.le_trans hs1 hg5
       try replace hs1 := Nat.le_trans hs1 B5.size
       try replace hr8 := hr8.below B5
       try replace e6 := (B5.block g6 l6).trans e6
       try replace l6 := Nat.lt_of_lt_of_le l6 B5.size
       try replace e7 := (B5.block g7 l7).trans e7
       try replace l7 := Nat.lt_of_lt_of_le l7 B5.size
       refine hK.out _ _ (hHeld.belowR B5) (fun hHeld => ?_)
       clear hK K B5
       try simp only [nP])
    | (refine step_mm18 62 (by rfl) (by rfl) ?_
       intro g6 w6 hg6 l6 e6 B6
       have hw6 : W0.heap.size ≤ g6 := Nat.le_trans hHeld.size hg6
       try have d5_6 : g5 ≠ g6 := Nat.ne_of_lt (Nat.lt_of_lt_of_le l5 hg6)
       try have d6_7 : g6 ≠ g7 := (Nat.ne_of_lt (Nat.lt_of_lt_of_le l7 hg6)).symm
       try have hq6 : w1.heap.size ≤ g6 := Nat.le_trans hs1 hg6
       try replace hs1 := Nat.le_trans hs1 B6.size
       try replace hr8 := hr8.below B6
       try replace e5 := (B6.block g5 l5).trans e5
       try replace l5 := Nat.lt_of_lt_of_le l5 B6.size
       try replace e7 := (B6.block g7 l7).trans e7
       try replace l7 := Nat.lt_of_lt_of_le l7 B6.size
       refine hK.out _ _ (hHeld.belowR B6) (fun hHeld => ?_)
       clear hK K B6
       try simp only [nP])
    | (refine step_mm18 63 (by rfl) (by rfl) ?_
       intro g7 w7 hg7 l7 e7 B7
       have hw7 : W0.heap.size ≤ g7 := Nat.le_trans hHeld.size hg7
       try have d5_7 : g5 ≠ g7 := Nat.ne_of_lt (Nat.lt_of_lt_of_le l5 hg7)
       try have d6_7 : g6 ≠ g7 := Nat.ne_of_lt (Nat.lt_of_lt_of_le l6 hg7)
       try have hq7 : w1.heap.size ≤ g7 := Nat.le_trans hs1 hg7
       try replace hs1 := Nat.le_trans hs1 B7.size
       try replace hr8 := hr8.below B7
       try replace e5 := (B7.block g5 l5).trans e5
       try replace l5 := Nat.lt_of_lt_of_le l5 B7.size
       try replace e6 := (B7.block g6 l6).trans e6
       try replace l6 := Nat.lt_of_lt_of_le l6 B7.size
       refine hK.out _ _ (hHeld.belowR B7) (fun hHeld => ?_)
       clear hK K B7
       try simp only [nP])
    | (go_simp
       refine (hsl.out _ (HRk.out _ hHeld)).mono ?_
       rintro e' w1 ⟨v8, s1, rfl, hs1e, hr8, B1⟩
       obtain ⟨A8, c8, rfl, _, _⟩ := hr8.slShape
       have hs0 : W0.heap.size ≤ s1 := by rw [hs1e]; exact hHeld.size
       replace hr8 := hr8.weak (F' := fun b => s1 ≤ b ∧ b < w1.heap.size) (fun b hb h => ⟨h, hb⟩)
       have hs1 : w1.heap.size ≤ w1.heap.size := Nat.le_refl _
       try have hq5 : g5 < s1 := by rw [hs1e]; exact l5
       try replace e5 := (B1.block g5 l5).trans e5
       try replace l5 := Nat.lt_of_lt_of_le l5 B1.size
       try have hq6 : g6 < s1 := by rw [hs1e]; exact l6
       try replace e6 := (B1.block g6 l6).trans e6
       try replace l6 := Nat.lt_of_lt_of_le l6 B1.size
       try have hq7 : g7 < s1 := by rw [hs1e]; exact l7
       try replace e7 := (B1.block g7 l7).trans e7
       try replace l7 := Nat.lt_of_lt_of_le l7 B1.size
       refine hK.out _ _ (hHeld.belowR B1) (fun hHeld => ?_)
       clear hK K B1 hs1e
       try simp only [nP])
  all_goals first
    | (have hh := l7; clear hh; refine wpAnyH_ready (rs := [1, 4, 5]) (by kernel_rfl) (by simp) (AllReadyH.cons (o := ⟨some 8, _, _, _, _, none⟩) rfl (fun K hK => ?_) (AllReadyH.cons (o := ⟨some 11, .makeMap _ _, _, _, _, none⟩) rfl (fun K hK => ?_) (AllReadyH.cons (o := ⟨some 12, .makeMap _ _, _, _, _, none⟩) rfl (fun K hK => ?_) AllReadyH.nil))))
    | (have hh := l6; clear hh; refine wpAnyH_ready (rs := [1, 4, 6]) (by kernel_rfl) (by simp) (AllReadyH.cons (o := ⟨some 8, _, _, _, _, none⟩) rfl (fun K hK => ?_) (AllReadyH.cons (o := ⟨some 11, .makeMap _ _, _, _, _, none⟩) rfl (fun K hK => ?_) (AllReadyH.cons (o := ⟨some 13, .makeMap _ _, _, _, _, none⟩) rfl (fun K hK => ?_) AllReadyH.nil))))
    | (have hh := l5; clear hh; refine wpAnyH_ready (rs := [1, 5, 6]) (by kernel_rfl) (by simp) (AllReadyH.cons (o := ⟨some 8, _, _, _, _, none⟩) rfl (fun K hK => ?_) (AllReadyH.cons (o := ⟨some 12, .makeMap _ _, _, _, _, none⟩) rfl (fun K hK => ?_) (AllReadyH.cons (o := ⟨some 13, .makeMap _ _, _, _, _, none⟩) rfl (fun K hK => ?_) AllReadyH.nil))))
    | (have hh := hs1; clear hh; refine wpAnyH_ready (rs := [4, 5, 6]) (by kernel_rfl) (by simp) (AllReadyH.cons (o := ⟨some 11, .makeMap _ _, _, _, _, none⟩) rfl (fun K hK => ?_) (AllReadyH.cons (o := ⟨some 12, .makeMap _ _, _, _, _, none⟩) rfl (fun K hK => ?_) (AllReadyH.cons (o := ⟨some 13, .makeMap _ _, _, _, _, none⟩) rfl (fun K hK => ?_) AllReadyH.nil))))
  all_goals first
    | (refine step_mm18 61 (by rfl) (by rfl) ?_
       intro g5 w5 hg5 l5 e5 B5
       have hw5 : W0.heap.size ≤ g5 := Nat.le_trans hHeld.size hg5
       try have d5_6 : g5 ≠ g6 := (Nat.ne_of_lt (Nat.lt_of_lt_of_le l6 hg5)).symm
       try have d5_7 : g5 ≠ g7 := (Nat.ne_of_lt (Nat.lt_of_lt_of_le l7 hg5)).symm
       try have hq5 : w1.heap.size ≤ g5 := Nat.le_trans hs1 hg5
       try replace hs1 := Nat.le_trans hs1 B5.size
       try replace hr8 := hr8.below B5
       try replace e6 := (B5.block g6 l6).trans e6
       try replace l6 := Nat.lt_of_lt_of_le l6 B5.size
       try replace e7 := (B5.block g7 l7).trans e7
       try replace l7 := Nat.lt_of_lt_of_le l7 B5.size
       refine hK.out _ _ (hHeld.belowR B5) (fun hHeld => ?_)
       clear hK K B5
       try simp only [nP])
    | (refine step_mm18 62 (by rfl) (by rfl) ?_
       intro g6 w6 hg6 l6 e6 B6
       have hw6 : W0.heap.size ≤ g6 := Nat.le_trans hHeld.size hg6
       try have d5_6 : g5 ≠ g6 := Nat.ne_of_lt (Nat.lt_of_lt_of_le l5 hg6)
       try have d6_7 : g6 ≠ g7 := (Nat.ne_of_lt (Nat.lt_of_lt_of_le l7 hg6)).symm
       try have hq6 : w1.heap.size ≤ g6 := Nat.le_trans hs1 hg6
       try replace hs1 := Nat.le_trans hs1 B6.size
       try replace hr8 := hr8.below B6
       try replace e5 := (B6.block g5 l5).trans e5
       try replace l5 := Nat.lt_of_lt_of_le l5 B6.size
       try replace e7 := (B6.block g7 l7).trans e7
       try replace l7 := Nat.lt_of_lt_of_le l7 B6.size
       refine hK.out _ _ (hHeld.belowR B6) (fun hHeld => ?_)
       clear hK K B6
       try simp only [nP])
    | (refine step_mm18 63 (by rfl) (by rfl) ?_
       intro g7 w7 hg7 l7 e7 B7
       have hw7 : W0.heap.size ≤ g7 := Nat.le_trans hHeld.size hg7
       try have d5_7 : g5 ≠ g7 := Nat.ne_of_lt (Nat.lt_of_lt_of_le l5 hg7)
       try have d6_7 : g6 ≠ g7 := Nat.ne_of_lt (Nat.lt_of_lt_of_le l6 hg7)
       try have hq7 : w1.heap.size ≤ g7 := Nat.le_trans hs1 hg7
       try replace hs1 := Nat.le_trans hs1 B7.size
       try replace hr8 := hr8.below B7
       try replace e5 := (B7.block g5 l5).trans e5
       try replace l5 := Nat.lt_of_lt_of_le l5 B7.size
       try replace e6 := (B7.block g6 l6).trans e6
       try replace l6 := Nat.lt_of_lt_of_le l6 B7.size
       refine hK.out _ _ (hHeld.belowR B7) (fun hHeld => ?_)
       clear hK K B7
       try simp only [nP])
    | (go_simp
       refine (hsl.out _ (HRk.out _ hHeld)).mono ?_
       rintro e' w1 ⟨v8, s1, rfl, hs1e, hr8, B1⟩
       obtain ⟨A8, c8, rfl, _, _⟩ := hr8.slShape
       have hs0 : W0.heap.size ≤ s1 := by rw [hs1e]; exact hHeld.size
       replace hr8 := hr8.weak (F' := fun b => s1 ≤ b ∧ b < w1.heap.size) (fun b hb h => ⟨h, hb⟩)
       have hs1 : w1.heap.size ≤ w1.heap.size := Nat.le_refl _
       try have hq5 : g5 < s1 := by rw [hs1e]; exact l5
       try replace e5 := (B1.block g5 l5).trans e5
       try replace l5 := Nat.lt_of_lt_of_le l5 B1.size
       try have hq6 : g6 < s1 := by rw [hs1e]; exact l6
       try replace e6 := (B1.block g6 l6).trans e6
       try replace l6 := Nat.lt_of_lt_of_le l6 B1.size
       try have hq7 : g7 < s1 := by rw [hs1e]; exact l7
       try replace e7 := (B1.block g7 l7).trans e7
       try replace l7 := Nat.lt_of_lt_of_le l7 B1.size
       refine hK.out _ _ (hHeld.belowR B1) (fun hHeld => ?_)
       clear hK K B1 hs1e
       try simp only [nP])
  all_goals first
    | (have hh := l6; clear hh; have hh := l7; clear hh; refine wpAnyH_ready (rs := [1, 4]) (by kernel_rfl) (by simp) (AllReadyH.cons (o := ⟨some 8, _, _, _, _, none⟩) rfl (fun K hK => ?_) (AllReadyH.cons (o := ⟨some 11, .makeMap _ _, _, _, _, none⟩) rfl (fun K hK => ?_) AllReadyH.nil)))
    | (have hh := l5; clear hh; have hh := l7; clear hh; refine wpAnyH_ready (rs := [1, 5]) (by kernel_rfl) (by simp) (AllReadyH.cons (o := ⟨some 8, _, _, _, _, none⟩) rfl (fun K hK => ?_) (AllReadyH.cons (o := ⟨some 12, .makeMap _ _, _, _, _, none⟩) rfl (fun K hK => ?_) AllReadyH.nil)))
    | (have hh := l5; clear hh; have hh := l6; clear hh; refine wpAnyH_ready (rs := [1, 6]) (by kernel_rfl) (by simp) (AllReadyH.cons (o := ⟨some 8, _, _, _, _, none⟩) rfl (fun K hK => ?_) (AllReadyH.cons (o := ⟨some 13, .makeMap _ _, _, _, _, none⟩) rfl (fun K hK => ?_) AllReadyH.nil)))
    | (have hh := hs1; clear hh; have hh := l7; clear hh; refine wpAnyH_ready (rs := [4, 5]) (by kernel_rfl) (by simp) (AllReadyH.cons (o := ⟨some 11, .makeMap _ _, _, _, _, none⟩) rfl (fun K hK => ?_) (AllReadyH.cons (o := ⟨some 12, .makeMap _ _, _, _, _, none⟩) rfl (fun K hK => ?_) AllReadyH.nil)))
    | (have hh := hs1; clear hh; have hh := l6; clear hh; refine wpAnyH_ready (rs := [4, 6]) (by kernel_rfl) (by simp) (AllReadyH.cons (o := ⟨some 11, .makeMap _ _, _, _, _, none⟩) rfl (fun K hK => ?_) (AllReadyH.cons (o := ⟨some 13, .makeMap _ _, _, _, _, none⟩) rfl (fun K hK => ?_) AllReadyH.nil)))
    | (have hh := hs1; clear hh; have hh := l5; clear hh; refine wpAnyH_ready (rs := [5, 6]) (by kernel_rfl) (by simp) (AllReadyH.cons (o := ⟨some 12, .makeMap _ _, _, _, _, none⟩) rfl (fun K hK => ?_) (AllReadyH.cons (o := ⟨some 13, .makeMap _ _, _, _, _, none⟩) rfl (fun K hK => ?_) AllReadyH.nil)))
  all_goals first
    | (refine step_mm18 61 (by rfl) (by rfl) ?_
       intro g5 w5 hg5 l5 e5 B5
       have hw5 : W0.heap.size ≤ g5 := Nat.le_trans hHeld.size hg5
       try have d5_6 : g5 ≠ g6 := (Nat.ne_of_lt (Nat.lt_of_lt_of_le l6 hg5)).symm
       try have d5_7 : g5 ≠ g7 := (Nat.ne_of_lt (Nat.lt_of_lt_of_le l7 hg5)).symm
       try have hq5 : w1.heap.size ≤ g5 := Nat.le_trans hs1 hg5
       try replace hs1 := Nat.le_trans hs1 B5.size
       try replace hr8 := hr8.below B5
       try replace e6 := (B5.block g6 l6).trans e6
       try replace l6 := Nat.lt_of_lt_of_le l6 B5.size
       try replace e7 := (B5.block g7 l7).trans e7
       try replace l7 := Nat.lt_of_lt_of_le l7 B5.size
       refine hK.out _ _ (hHeld.belowR B5) (fun hHeld => ?_)
       clear hK K B5
       try simp only [nP])
    | (refine step_mm18 62 (by rfl) (by rfl) ?_
       intro g6 w6 hg6 l6 e6 B6
       have hw6 : W0.heap.size ≤ g6 := Nat.le_trans hHeld.size hg6
       try have d5_6 : g5 ≠ g6 := Nat.ne_of_lt (Nat.lt_of_lt_of_le l5 hg6)
       try have d6_7 : g6 ≠ g7 := (Nat.ne_of_lt (Nat.lt_of_lt_of_le l7 hg6)).symm
       try have hq6 : w1.heap.size ≤ g6 := Nat.le_trans hs1 hg6
       try replace hs1 := Nat.le_trans hs1 B6.size
       try replace hr8 := hr8.below B6
       try replace e5 := (B6.block g5 l5).trans e5
       try replace l5 := Nat.lt_of_lt_of_le l5 B6.size
       try replace e7 := (B6.block g7 l7).trans e7
       try replace l7 := Nat.lt_of_lt_of_le l7 B6.size
       refine hK.out _ _ (hHeld.belowR B6) (fun hHeld => ?_)
       clear hK K B6
       try simp only [nP])
    | (refine step_mm18 63 (by rfl) (by rfl) ?_
       intro g7 w7 hg7 l7 e7 B7
       have hw7 : W0.heap.size ≤ g7 := Nat.le_trans hHeld.size hg7
       try have d5_7 : g5 ≠ g7 := Nat.ne_of_lt (Nat.lt_of_lt_of_le l5 hg7)
       try have d6_7 : g6 ≠ g7 := Nat.ne_of_lt (Nat.lt_of_lt_of_le l6 hg7)
       try have hq7 : w1.heap.size ≤ g7 := Nat.le_trans hs1 hg7
       try replace hs1 := Nat.le_trans hs1 B7.size
       try replace hr8 := hr8.below B7
       try replace e5 := (B7.block g5 l5).trans e5
       try replace l5 := Nat.lt_of_lt_of_le l5 B7.size
       try replace e6 := (B7.block g6 l6).trans e6
       try replace l6 := Nat.lt_of_lt_of_le l6 B7.size
       refine hK.out _ _ (hHeld.belowR B7) (fun hHeld => ?_)
       clear hK K B7
       try simp only [nP])
    | (go_simp
       refine (hsl.out _ (HRk.out _ hHeld)).mono ?_
       rintro e' w1 ⟨v8, s1, rfl, hs1e, hr8, B1⟩
       obtain ⟨A8, c8, rfl, _, _⟩ := hr8.slShape
       have hs0 : W0.heap.size ≤ s1 := by rw [hs1e]; exact hHeld.size
       replace hr8 := hr8.weak (F' := fun b => s1 ≤ b ∧ b < w1.heap.size) (fun b hb h => ⟨h, hb⟩)
       have hs1 : w1.heap.size ≤ w1.heap.size := Nat.le_refl _
       try have hq5 : g5 < s1 := by rw [hs1e]; exact l5
       try replace e5 := (B1.block g5 l5).trans e5
       try replace l5 := Nat.lt_of_lt_of_le l5 B1.size
       try have hq6 : g6 < s1 := by rw [hs1e]; exact l6
       try replace e6 := (B1.block g6 l6).trans e6
       try replace l6 := Nat.lt_of_lt_of_le l6 B1.size
       try have hq7 : g7 < s1 := by rw [hs1e]; exact l7
       try replace e7 := (B1.block g7 l7).trans e7
       try replace l7 := Nat.lt_of_lt_of_le l7 B1.size
       refine hK.out _ _ (hHeld.belowR B1) (fun hHeld => ?_)
       clear hK K B1 hs1e
       try simp only [nP])
  all_goals first
    | (have hh := l5; clear hh; have hh := l6; clear hh; have hh := l7; clear hh; refine wpAnyH_ready (rs := [1]) (by kernel_rfl) (by simp) (AllReadyH.cons (o := ⟨some 8, _, _, _, _, none⟩) rfl (fun K hK => ?_) AllReadyH.nil))
    | (have hh := hs1; clear hh; have hh := l6; clear hh; have hh := l7; clear hh; refine wpAnyH_ready (rs := [4]) (by kernel_rfl) (by simp) (AllReadyH.cons (o := ⟨some 11, .makeMap _ _, _, _, _, none⟩) rfl (fun K hK => ?_) AllReadyH.nil))
    | (have hh := hs1; clear hh; have hh := l5; clear hh; have hh := l7; clear hh; refine wpAnyH_ready (rs := [5]) (by kernel_rfl) (by simp) (AllReadyH.cons (o := ⟨some 12, .makeMap _ _, _, _, _, none⟩) rfl (fun K hK => ?_) AllReadyH.nil))
    | (have hh := hs1; clear hh; have hh := l5; clear hh; have hh := l6; clear hh; refine wpAnyH_ready (rs := [6]) (by kernel_rfl) (by simp) (AllReadyH.cons (o := ⟨some 13, .makeMap _ _, _, _, _, none⟩) rfl (fun K hK => ?_) AllReadyH.nil))
  all_goals first
    | (refine step_mm18 61 (by rfl) (by rfl) ?_
       intro g5 w5 hg5 l5 e5 B5
       have hw5 : W0.heap.size ≤ g5 := Nat.le_trans hHeld.size hg5
       try have d5_6 : g5 ≠ g6 := (Nat.ne_of_lt (Nat.lt_of_lt_of_le l6 hg5)).symm
       try have d5_7 : g5 ≠ g7 := (Nat.ne_of_lt (Nat.lt_of_lt_of_le l7 hg5)).symm
       try have hq5 : w1.heap.size ≤ g5 := Nat.le_trans hs1 hg5
       try replace hs1 := Nat.le_trans hs1 B5.size
       try replace hr8 := hr8.below B5
       try replace e6 := (B5.block g6 l6).trans e6
       try replace l6 := Nat.lt_of_lt_of_le l6 B5.size
       try replace e7 := (B5.block g7 l7).trans e7
       try replace l7 := Nat.lt_of_lt_of_le l7 B5.size
       refine hK.out _ _ (hHeld.belowR B5) (fun hHeld => ?_)
       clear hK K B5
       try simp only [nP])
    | (refine step_mm18 62 (by rfl) (by rfl) ?_
       intro g6 w6 hg6 l6 e6 B6
       have hw6 : W0.heap.size ≤ g6 := Nat.le_trans hHeld.size hg6
       try have d5_6 : g5 ≠ g6 := Nat.ne_of_lt (Nat.lt_of_lt_of_le l5 hg6)
       try have d6_7 : g6 ≠ g7 := (Nat.ne_of_lt (Nat.lt_of_lt_of_le l7 hg6)).symm
       try have hq6 : w1.heap.size ≤ g6 := Nat.le_trans hs1 hg6
       try replace hs1 := Nat.le_trans hs1 B6.size
       try replace hr8 := hr8.below B6
       try replace e5 := (B6.block g5 l5).trans e5
       try replace l5 := Nat.lt_of_lt_of_le l5 B6.size
       try replace e7 := (B6.block g7 l7).trans e7
       try replace l7 := Nat.lt_of_lt_of_le l7 B6.size
       refine hK.out _ _ (hHeld.belowR B6) (fun hHeld => ?_)
       clear hK K B6
       try simp only [nP])
    | (refine step_mm18 63 (by rfl) (by rfl) ?_
       intro g7 w7 hg7 l7 e7 B7
       have hw7 : W0.heap.size ≤ g7 := Nat.le_trans hHeld.size hg7
       try have d5_7 : g5 ≠ g7 := Nat.ne_of_lt (Nat.lt_of_lt_of_le l5 hg7)
       try have d6_7 : g6 ≠ g7 := Nat.ne_of_lt (Nat.lt_of_lt_of_le l6 hg7)
       try have hq7 : w1.heap.size ≤ g7 := Nat.le_trans hs1 hg7
       try replace hs1 := Nat.le_trans hs1 B7.size
       try replace hr8 := hr8.below B7
       try replace e5 := (B7.block g5 l5).trans e5
       try replace l5 := Nat.lt_of_lt_of_le l5 B7.size
       try replace e6 := (B7.block g6 l6).trans e6
       try replace l6 := Nat.lt_of_lt_of_le l6 B7.size
       refine hK.out _ _ (hHeld.belowR B7) (fun hHeld => ?_)
       clear hK K B7
       try simp only [nP])
    | (go_simp
       refine (hsl.out _ (HRk.out _ hHeld)).mono ?_
       rintro e' w1 ⟨v8, s1, rfl, hs1e, hr8, B1⟩
       obtain ⟨A8, c8, rfl, _, _⟩ := hr8.slShape
       have hs0 : W0.heap.size ≤ s1 := by rw [hs1e]; exact hHeld.size
       replace hr8 := hr8.weak (F' := fun b => s1 ≤ b ∧ b < w1.heap.size) (fun b hb h => ⟨h, hb⟩)
       have hs1 : w1.heap.size ≤ w1.heap.size := Nat.le_refl _
       try have hq5 : g5 < s1 := by rw [hs1e]; exact l5
       try replace e5 := (B1.block g5 l5).trans e5
       try replace l5 := Nat.lt_of_lt_of_le l5 B1.size
       try have hq6 : g6 < s1 := by rw [hs1e]; exact l6
       try replace e6 := (B1.block g6 l6).trans e6
       try replace l6 := Nat.lt_of_lt_of_le l6 B1.size
       try have hq7 : g7 < s1 := by rw [hs1e]; exact l7
       try replace e7 := (B1.block g7 l7).trans e7
       try replace l7 := Nat.lt_of_lt_of_le l7 B1.size
       refine hK.out _ _ (hHeld.belowR B1) (fun hHeld => ?_)
       clear hK K B1 hs1e
       try simp only [nP])
  all_goals
    refine tkY 7 rfl (y_bld (by rfl) 65 [(0, .tmp 8), (1, .tmp 9), (2, .tmp 10), (3, .tmp 11), (4, .tmp 12), (5, .tmp 13)] (by rfl) [(0, .agg #[.slice A8 Kl.length c8, .slice none 0 0]), (1, .agg #[.int .i64 n, .int .u16 (m : Int)]), (2, .int .i64 slot), (3, .map (some g5)), (4, .map (some g6)), (5, .map (some g7))] (by rfl) (bldIn18 _ _ _ _ _ _ _ _ _)) ?_
    refine rdH 8 rfl (fun K hK => ?_)
    refine step_box18 65 (.tmp 14) (by rfl) (by rfl) (l := iC (.slice A8 Kl.length c8) ⟨n, m⟩ slot g5 g6 g7) (by rfl) ?_
    intro p w9 hp9 lp b9 B9
    have hwp : W0.heap.size ≤ p := Nat.le_trans hHeld.size hp9
    have p6 : g6 < p := Nat.lt_of_lt_of_le l6 hp9
    have p7 : g7 < p := Nat.lt_of_lt_of_le l7 hp9
    have p8 : w1.heap.size ≤ p := Nat.le_trans hs1 hp9
    replace hs1 := Nat.le_trans hs1 B9.size
    replace e6 := (B9.block g6 l6).trans e6
    replace e7 := (B9.block g7 l7).trans e7
    replace hr8 := hr8.below B9
    have hfin := hFIN.out w9 p g5 g6 g7 (.slice A8 Kl.length c8) _ b9 hr8 e6 e7 d6_7 p6 p7 (fun b h => by have h1 := h.1; have h2 := h.2; exact ⟨by omega, by omega, by omega, by omega, by omega⟩) hwp hw6 hw7 (hHeld.belowR B9).below
    refine hK.out _ _ (hHeld.belowR B9) (fun hHeld => ?_)
    clear hK K B9
    try simp only [nP]
    refine tkP 9 rfl ?_
    refine wpAnyH_done (by kernel_rfl) ?_ _
    refine NoPanic.normal ?_
    clear hHeld
    go_wp2
    go_ret
    obtain ⟨v0, M0, z1, z2, z3, z4⟩ := hfin
    first | exact ⟨v0, M0, z1, z2, z3, z4⟩ | exact ⟨v0, z1, M0, z2, z3, z4⟩
end Go.Proofs.YthbbpfnfnnmdnaaDoor
