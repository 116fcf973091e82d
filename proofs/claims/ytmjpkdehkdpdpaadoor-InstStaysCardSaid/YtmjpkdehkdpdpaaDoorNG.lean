/- NG: several texts in one (NE NG). -/
import Derived.Test.YtmjpkdehkdpdpaaDoorND
import Derived.Test.YtmjpkdehkdpdpaaDoorW3
import Derived.Deep.DeepCutAuto
import Derived.Deep.RegionHeld3
import Derived.Great.Walk
import Derived.Test.YtmjpkdehkdpdpaaDoorBC
/- NE: layer 18: contracts of an instance's isQuorum and winner. -/
namespace Go.Proofs.YtmjpkdehkdpdpaaDoor
open Go.RowKit Go.V Go.Maps
set_option maxRecDepth 100000 in
set_option maxHeartbeats 2000000 in
theorem isq18_any (p b0 b1 b2 : Nat) (uk : Value) (V : Vc) (slot : Int) (S : Nat) (w : World) (hb : Blk w p 65 (iC uk V slot b0 b1 b2)) (hV : V.m < 65536) (hS : S < 65536) :
    Calls Tryd.prog 32 #[.pointer (some ⟨p, 0, none⟩), .int .u16 (S : Int)] w fun e w' => e = .returned (.bool (qOK V S)) ∧ Below w.heap.size w w' := by
  obtain ⟨n, M⟩ := V
  dsimp only at hV
  have hr := hid (right_any n M · hV)
  have hquo := hid (quo_any n M · hV)
  have hone : Hid (∀ W : World, Calls Tryd.prog 44 #[.int .u16 (S : Int)] W fun e w' => e = .returned (.int .i64 (szM S : Int)) ∧ Below W.heap.size W w') := fun W => (ones_any S W hS).mono (by rintro e w1 ⟨rfl, k, rfl⟩; exact ⟨rfl, ⟨rfl, rfl, rfl, Nat.le_refl _, fun _ _ => rfl⟩⟩)
  have HV : Hid (∀ W, Ch nob w W → W.rangeAt p 2 [.int .i64 n, .int .u16 (M : Int)]) := fun W h => (hb.ch h (fun h => h)).range 2 _ (fun j v hv => by
    match j, hv with
    | 0, hv => exact hv
    | 1, hv => exact hv
    | j + 2, hv => cases hv)
  have Hq : Hid (qOK ⟨n, M⟩ S = (rgt n M && decide (quoN n M ≤ szM S))) := hid rfl
  unfold vw at hr hquo
  obtain ⟨d, hd⟩ : ∃ d, d = qOK ⟨n, M⟩ S := ⟨_, rfl⟩
  rw [← hd] at Hq ⊢
  clear hd
  obtain ⟨q, hq⟩ : ∃ q, q = quoN n M := ⟨_, rfl⟩
  rw [← hq] at hquo Hq
  obtain ⟨s, hs⟩ : ∃ s, s = szM S := ⟨_, rfl⟩
  rw [← hs] at hone Hq
  obtain ⟨b, hbq⟩ : ∃ b, b = rgt n M := ⟨_, rfl⟩
  rw [← hbq] at hr Hq
  clear hq hs hbq hb
  go_enter Tryd.func32, Tryd.ntmps32
  go_upto_region 1 with (fail)
  cases b with
  | true =>
    refine wp_region_noPanic ?_
    refine wp_region_held_drew (S := Ch nob w) (by kernel_rfl) ((Ch.refl _ _).drew) (fun hHeld => ?_)
    refine wpAnyH_take (i := 0) (oi := ⟨some 5, _, _, _, _, none⟩) (v := ?_) rfl (by kernel_rfl) (by kernel_rfl) (by kernel_rfl) (fun _ _ _ h => h) (Or.inl ⟨by rfl, ?_⟩) (by assumption) ?_
    rotate_left
    · intro w hSw; go_simp; try with_reducible rfl
    try simp only [Act.put, List.setIfInBounds_toArray, List.set_cons_zero, List.set_cons_succ]
    refine wpAnyH_take (i := 1) (oi := ⟨some 6, _, _, _, _, none⟩) (v := ?_) rfl (by kernel_rfl) (by kernel_rfl) (by kernel_rfl) (fun _ _ _ h => h) (Or.inl ⟨by rfl, ?_⟩) (by assumption) ?_
    rotate_left
    · intro w hSw; go_simp; try with_reducible rfl
    try simp only [Act.put, List.setIfInBounds_toArray, List.set_cons_zero, List.set_cons_succ]
    refine wpAnyH_take (i := 2) (oi := ⟨some 7, _, _, _, _, none⟩) (v := ?_) rfl (by kernel_rfl) (by kernel_rfl) (by kernel_rfl) (fun _ _ _ h => h) (Or.inl ⟨by rfl, ?_⟩) (by assumption) ?_
    rotate_left
    · intro w hSw; go_simp; try with_reducible rfl
    try simp only [Act.put, List.setIfInBounds_toArray, List.set_cons_zero, List.set_cons_succ]
    refine wpAnyH_take (i := 3) (oi := ⟨some 8, .load 24 (.tmp 7), _, _, _, none⟩) (v := _) rfl (by kernel_rfl) (by kernel_rfl) (by kernel_rfl) (fun _ _ _ h => h) (yieldsIf_load_mid (by rfl) 24 (.tmp 7) (by rfl) _ (2) (by rfl) _ _ (fun _ hs => HV.out _ hs) Tryd.underlying24 rfl (sizeV)) (by assumption) ?_
    try simp only [Act.put, List.setIfInBounds_toArray, List.set_cons_zero, List.set_cons_succ]
    refine wpAnyH_ready (rs := [4]) (by kernel_rfl) (by simp) ?_
    refine AllReadyH.cons (o := ⟨some 9, _, _, _, _, none⟩) rfl (fun K hK => ?_) AllReadyH.nil
    go_simp
    refine (hr.out _).mono ?_
    rintro e' w11 ⟨rfl, hB11⟩
    have hC11 := hHeld.belowR hB11
    refine hK.out _ _ (hC11) (fun hHeld => ?_)
    clear hK K
    try simp only [Act.put, List.setIfInBounds_toArray, List.set_cons_zero, List.set_cons_succ]
    refine wpAnyH_take (i := 5) (oi := ⟨some 10, _, _, _, _, none⟩) (v := ?_) rfl (by kernel_rfl) (by kernel_rfl) (by kernel_rfl) (fun _ _ _ h => h) (Or.inl ⟨by rfl, ?_⟩) (by assumption) ?_
    rotate_left
    · intro w hSw; go_simp; try with_reducible rfl
    try simp only [Act.put, List.setIfInBounds_toArray, List.set_cons_zero, List.set_cons_succ]
    refine wpAnyH_take (i := 6) (oi := ⟨some 11, _, _, _, _, some (5, true)⟩) (v := ?_) rfl (by kernel_rfl) (by kernel_rfl) (by kernel_rfl) (fun _ _ _ h => h) (Or.inl ⟨by rfl, ?_⟩) (by assumption) ?_
    rotate_left
    · intro w hSw; go_simp; try with_reducible rfl
    try simp only [Act.put, List.setIfInBounds_toArray, List.set_cons_zero, List.set_cons_succ]
    refine wpAnyH_take (i := 8) (oi := ⟨some 13, _, _, _, _, some (5, true)⟩) (v := ?_) rfl (by kernel_rfl) (by kernel_rfl) (by kernel_rfl) (fun _ _ _ h => h) (Or.inl ⟨by rfl, ?_⟩) (by assumption) ?_
    rotate_left
    · intro w hSw; go_simp; try with_reducible rfl
    try simp only [Act.put, List.setIfInBounds_toArray, List.set_cons_zero, List.set_cons_succ]
    refine wpAnyH_take (i := 9) (oi := ⟨some 14, _, _, _, _, some (5, true)⟩) (v := ?_) rfl (by kernel_rfl) (by kernel_rfl) (by kernel_rfl) (fun _ _ _ h => h) (Or.inl ⟨by rfl, ?_⟩) (by assumption) ?_
    rotate_left
    · intro w hSw; go_simp; try with_reducible rfl
    try simp only [Act.put, List.setIfInBounds_toArray, List.set_cons_zero, List.set_cons_succ]
    refine wpAnyH_take (i := 10) (oi := ⟨some 15, _, _, _, _, some (5, true)⟩) (v := ?_) rfl (by kernel_rfl) (by kernel_rfl) (by kernel_rfl) (fun _ _ _ h => h) (Or.inl ⟨by rfl, ?_⟩) (by assumption) ?_
    rotate_left
    · intro w hSw; go_simp; try with_reducible rfl
    try simp only [Act.put, List.setIfInBounds_toArray, List.set_cons_zero, List.set_cons_succ]
    refine wpAnyH_take (i := 11) (oi := ⟨some 16, .load 24 (.tmp 15), _, _, _, some (5, true)⟩) (v := _) rfl (by kernel_rfl) (by kernel_rfl) (by kernel_rfl) (fun _ _ _ h => h) (yieldsIf_load_mid (by rfl) 24 (.tmp 15) (by rfl) _ (2) (by rfl) _ _ (fun _ hs => HV.out _ hs) Tryd.underlying24 rfl (sizeV)) (by assumption) ?_
    try simp only [Act.put, List.setIfInBounds_toArray, List.set_cons_zero, List.set_cons_succ]
    refine wpAnyH_ready (rs := [7]) (by kernel_rfl) (by simp) ?_
    refine AllReadyH.cons (o := ⟨some 12, _, _, _, _, some (5, true)⟩) rfl (fun K hK => ?_) AllReadyH.nil
    go_simp
    refine (hone.out _).mono ?_
    rintro e' w12 ⟨rfl, hB12⟩
    have hC12 := hC11.belowR hB12
    refine hK.out _ _ (hC12) (fun hHeld => ?_)
    clear hK K
    try simp only [Act.put, List.setIfInBounds_toArray, List.set_cons_zero, List.set_cons_succ]
    refine wpAnyH_ready (rs := [12]) (by kernel_rfl) (by simp) ?_
    refine AllReadyH.cons (o := ⟨some 17, _, _, _, _, some (5, true)⟩) rfl (fun K hK => ?_) AllReadyH.nil
    go_simp
    refine (hquo.out _).mono ?_
    rintro e' w13 ⟨rfl, hB13⟩
    have hC13 := hC12.belowR hB13
    refine hK.out _ _ (hC13) (fun hHeld => ?_)
    clear hK K
    try simp only [Act.put, List.setIfInBounds_toArray, List.set_cons_zero, List.set_cons_succ]
    refine wpAnyH_take (i := 13) (oi := ⟨some 18, _, _, _, _, some (5, true)⟩) (v := ?_) rfl (by kernel_rfl) (by kernel_rfl) (by kernel_rfl) (fun _ _ _ h => h) (Or.inl ⟨by rfl, ?_⟩) (by assumption) ?_
    rotate_left
    · intro w hSw; go_simp; try with_reducible rfl
    try simp only [Act.put, List.setIfInBounds_toArray, List.set_cons_zero, List.set_cons_succ]
    refine wpAnyH_take (i := 14) (oi := ⟨some 19, _, _, _, _, none⟩) (v := ?_) rfl (by kernel_rfl) (by kernel_rfl) (by kernel_rfl) (fun _ _ _ h => h) (Or.inl ⟨by rfl, ?_⟩) (by assumption) ?_
    rotate_left
    · intro w hSw; go_simp; try with_reducible rfl
    try simp only [Act.put, List.setIfInBounds_toArray, List.set_cons_zero, List.set_cons_succ]
    refine wpAnyH_take (i := 15) (oi := ⟨some 4, _, _, _, _, none⟩) (v := ?_) rfl (by kernel_rfl) (by kernel_rfl) (by kernel_rfl) (fun _ _ _ h => h) (Or.inl ⟨by rfl, ?_⟩) (by assumption) ?_
    rotate_left
    · intro w hSw; go_simp; try with_reducible rfl
    try simp only [Act.put, List.setIfInBounds_toArray, List.set_cons_zero, List.set_cons_succ]
    refine wpAnyH_done (by kernel_rfl) ?_ _
    refine NoPanic.normal ?_
    have hBe := hHeld.below
    go_wp2
    go_ret
    exact ⟨ret_b (by rw [Hq.out, Bool.true_and]), hBe⟩
  | false =>
    refine wp_region_noPanic ?_
    refine wp_region_held_drew (S := Ch nob w) (by kernel_rfl) ((Ch.refl _ _).drew) (fun hHeld => ?_)
    refine wpAnyH_take (i := 0) (oi := ⟨some 5, _, _, _, _, none⟩) (v := ?_) rfl (by kernel_rfl) (by kernel_rfl) (by kernel_rfl) (fun _ _ _ h => h) (Or.inl ⟨by rfl, ?_⟩) (by assumption) ?_
    rotate_left
    · intro w hSw; go_simp; try with_reducible rfl
    try simp only [Act.put, List.setIfInBounds_toArray, List.set_cons_zero, List.set_cons_succ]
    refine wpAnyH_take (i := 1) (oi := ⟨some 6, _, _, _, _, none⟩) (v := ?_) rfl (by kernel_rfl) (by kernel_rfl) (by kernel_rfl) (fun _ _ _ h => h) (Or.inl ⟨by rfl, ?_⟩) (by assumption) ?_
    rotate_left
    · intro w hSw; go_simp; try with_reducible rfl
    try simp only [Act.put, List.setIfInBounds_toArray, List.set_cons_zero, List.set_cons_succ]
    refine wpAnyH_take (i := 2) (oi := ⟨some 7, _, _, _, _, none⟩) (v := ?_) rfl (by kernel_rfl) (by kernel_rfl) (by kernel_rfl) (fun _ _ _ h => h) (Or.inl ⟨by rfl, ?_⟩) (by assumption) ?_
    rotate_left
    · intro w hSw; go_simp; try with_reducible rfl
    try simp only [Act.put, List.setIfInBounds_toArray, List.set_cons_zero, List.set_cons_succ]
    refine wpAnyH_take (i := 3) (oi := ⟨some 8, .load 24 (.tmp 7), _, _, _, none⟩) (v := _) rfl (by kernel_rfl) (by kernel_rfl) (by kernel_rfl) (fun _ _ _ h => h) (yieldsIf_load_mid (by rfl) 24 (.tmp 7) (by rfl) _ (2) (by rfl) _ _ (fun _ hs => HV.out _ hs) Tryd.underlying24 rfl (sizeV)) (by assumption) ?_
    try simp only [Act.put, List.setIfInBounds_toArray, List.set_cons_zero, List.set_cons_succ]
    refine wpAnyH_ready (rs := [4]) (by kernel_rfl) (by simp) ?_
    refine AllReadyH.cons (o := ⟨some 9, _, _, _, _, none⟩) rfl (fun K hK => ?_) AllReadyH.nil
    go_simp
    refine (hr.out _).mono ?_
    rintro e' w11 ⟨rfl, hB11⟩
    have hC11 := hHeld.belowR hB11
    refine hK.out _ _ (hC11) (fun hHeld => ?_)
    clear hK K
    try simp only [Act.put, List.setIfInBounds_toArray, List.set_cons_zero, List.set_cons_succ]
    refine wpAnyH_take (i := 5) (oi := ⟨some 10, _, _, _, _, none⟩) (v := ?_) rfl (by kernel_rfl) (by kernel_rfl) (by kernel_rfl) (fun _ _ _ h => h) (Or.inl ⟨by rfl, ?_⟩) (by assumption) ?_
    rotate_left
    · intro w hSw; go_simp; try with_reducible rfl
    try simp only [Act.put, List.setIfInBounds_toArray, List.set_cons_zero, List.set_cons_succ]
    refine wpAnyH_take (i := 6) (oi := ⟨some 11, _, _, _, _, some (5, true)⟩) (v := undef) rfl (by kernel_rfl) (by kernel_rfl) (by kernel_rfl) (fun _ _ _ h => h) (Or.inr ⟨by rfl, rfl⟩) (by assumption) ?_
    try simp only [Act.put, List.setIfInBounds_toArray, List.set_cons_zero, List.set_cons_succ]
    refine wpAnyH_take (i := 7) (oi := ⟨some 12, _, _, _, _, some (5, true)⟩) (v := undef) rfl (by kernel_rfl) (by kernel_rfl) (by kernel_rfl) (fun _ _ _ h => h) (Or.inr ⟨by rfl, rfl⟩) (by assumption) ?_
    try simp only [Act.put, List.setIfInBounds_toArray, List.set_cons_zero, List.set_cons_succ]
    refine wpAnyH_take (i := 8) (oi := ⟨some 13, _, _, _, _, some (5, true)⟩) (v := undef) rfl (by kernel_rfl) (by kernel_rfl) (by kernel_rfl) (fun _ _ _ h => h) (Or.inr ⟨by rfl, rfl⟩) (by assumption) ?_
    try simp only [Act.put, List.setIfInBounds_toArray, List.set_cons_zero, List.set_cons_succ]
    refine wpAnyH_take (i := 9) (oi := ⟨some 14, _, _, _, _, some (5, true)⟩) (v := undef) rfl (by kernel_rfl) (by kernel_rfl) (by kernel_rfl) (fun _ _ _ h => h) (Or.inr ⟨by rfl, rfl⟩) (by assumption) ?_
    try simp only [Act.put, List.setIfInBounds_toArray, List.set_cons_zero, List.set_cons_succ]
    refine wpAnyH_take (i := 10) (oi := ⟨some 15, _, _, _, _, some (5, true)⟩) (v := undef) rfl (by kernel_rfl) (by kernel_rfl) (by kernel_rfl) (fun _ _ _ h => h) (Or.inr ⟨by rfl, rfl⟩) (by assumption) ?_
    try simp only [Act.put, List.setIfInBounds_toArray, List.set_cons_zero, List.set_cons_succ]
    refine wpAnyH_take (i := 11) (oi := ⟨some 16, _, _, _, _, some (5, true)⟩) (v := undef) rfl (by kernel_rfl) (by kernel_rfl) (by kernel_rfl) (fun _ _ _ h => h) (Or.inr ⟨by rfl, rfl⟩) (by assumption) ?_
    try simp only [Act.put, List.setIfInBounds_toArray, List.set_cons_zero, List.set_cons_succ]
    refine wpAnyH_take (i := 12) (oi := ⟨some 17, _, _, _, _, some (5, true)⟩) (v := undef) rfl (by kernel_rfl) (by kernel_rfl) (by kernel_rfl) (fun _ _ _ h => h) (Or.inr ⟨by rfl, rfl⟩) (by assumption) ?_
    try simp only [Act.put, List.setIfInBounds_toArray, List.set_cons_zero, List.set_cons_succ]
    refine wpAnyH_take (i := 13) (oi := ⟨some 18, _, _, _, _, some (5, true)⟩) (v := undef) rfl (by kernel_rfl) (by kernel_rfl) (by kernel_rfl) (fun _ _ _ h => h) (Or.inr ⟨by rfl, rfl⟩) (by assumption) ?_
    try simp only [Act.put, List.setIfInBounds_toArray, List.set_cons_zero, List.set_cons_succ]
    refine wpAnyH_take (i := 14) (oi := ⟨some 19, _, _, _, _, none⟩) (v := ?_) rfl (by kernel_rfl) (by kernel_rfl) (by kernel_rfl) (fun _ _ _ h => h) (Or.inl ⟨by rfl, ?_⟩) (by assumption) ?_
    rotate_left
    · intro w hSw; go_simp; try with_reducible rfl
    try simp only [Act.put, List.setIfInBounds_toArray, List.set_cons_zero, List.set_cons_succ]
    refine wpAnyH_take (i := 15) (oi := ⟨some 4, _, _, _, _, none⟩) (v := ?_) rfl (by kernel_rfl) (by kernel_rfl) (by kernel_rfl) (fun _ _ _ h => h) (Or.inl ⟨by rfl, ?_⟩) (by assumption) ?_
    rotate_left
    · intro w hSw; go_simp; try with_reducible rfl
    try simp only [Act.put, List.setIfInBounds_toArray, List.set_cons_zero, List.set_cons_succ]
    refine wpAnyH_done (by kernel_rfl) ?_ _
    refine NoPanic.normal ?_
    have hBe := hHeld.below
    go_wp2
    go_ret
    exact ⟨ret_b (by rw [Hq.out, Bool.false_and]), hBe⟩
end Go.Proofs.YtmjpkdehkdpdpaaDoor
/- NG: layer 18: contract of an instance's votesFor. -/
namespace Go.Proofs.YtmjpkdehkdpdpaaDoor
open Go.RowKit Go.V Go.Maps
theorem zU18 (w : World) : (zeroValue 22).run Tryd.prog w = .ok (.int .u16 0) w := by kernel_rfl
theorem zBy18 (w : World) : (zeroValue 35).run Tryd.prog w = .ok (.slice none 0 0) w := by kernel_rfl
theorem bldVw18 (M : Int) : ∀ W : World, (Instr.build 24 #[(1, .int .u16 M)]).run Tryd.prog W = .ok (.agg #[.int .i64 0, .int .u16 M]) W := fun _ => by kernel_rfl
theorem bldPl18 (a b c : Int) : ∀ W : World, (Instr.build 69 #[(0, .int .i64 a), (1, .int .i64 b), (2, .int .i64 c)]).run Tryd.prog W = .ok (.agg #[.int .i64 a, .int .i64 b, .int .i64 c]) W := fun _ => by kernel_rfl
/-- a word that is looked up -/
theorem look_w {w : World} {b : Nat} {B : List (KyG Tryd.prog 72 × Nat)} (h : MpS sM w nob b B) (s : KyG Tryd.prog 72) : (Instr.lookup 63 (.map (some b)) (sM.kv s) false).run Tryd.prog w = .ok (.int .u16 (((findS B s).getD 0 : Nat) : Int)) w := by
  rcases h.run_look 63 22 false Tryd.underlying63 (zU18 w) s with ⟨h1, h2⟩ | ⟨d, v, h1, h2, h3⟩
  · rw [h1]
    exact h2
  · have h2 : v = .int .u16 (d : Int) := h2
    subst h2
    rw [h1]
    exact h3
theorem NvIn.sm {ks : List (List UInt8)} {V : Vc} {slot : Int} {L : List Nv} (h : NvIn ks V slot L) {v : Nv} (hv : v ∈ L) : v.b.length ≤ 1000000 := by
  have ho := (tl_ok (h.v v hv)).1
  unfold opOf at ho
  split at ho
  · rename_i m hm
    unfold opR at hm
    split at hm
    · cases hm
    · split at hm
      · cases hm
      · omega
  · cases ho
set_option maxRecDepth 100000 in
set_option maxHeartbeats 8000000 in
theorem votes18_any (p b0 b1 b2 : Nat) (uk : Value) (F : Nat → Prop) (ks : List (List UInt8)) (V : Vc) (slot : Int) (L : List Nv) (k r : Int) (h : List UInt8) (w : World) (hm : IM w p b0 b1 b2 uk F ks V slot L) (hk : in64w k) (hr : in64w r) (hh : h.length = 32) :
    Calls Tryd.prog 23 #[.pointer (some ⟨p, 0, none⟩), .agg (csB k r h).toArray] w fun e w' => ∃ v', e = .returned v' ∧ Rd w' (fun b => w.heap.size ≤ b) v' (tx (forC L k r h)) ∧ Below w.heap.size w w' := by
  obtain ⟨B, hsm, hBR⟩ := hm.sm
  have hvin := hm.vin
  have Hl34 := hid (len_csB (k := k) (r := r) hh)
  have HFm := hid (for_mem hvin k r h)
  have HMv := hid (fun i hi => mem_vote hvin (k := k) (r := r) (d := h) (i := i) hi)
  have HXl := hid (fun v hv => hvin.sm (v := v) hv)
  have Hmm := hid (hBR.mem hk hr hh)
  have hS16 := hBR.lt hk hr hh
  have Hkv : Hid (.agg (csB k r h).toArray = sM.kv (kyB k r h)) := hid (kyB_v hk hr hh).symm
  have HkP : Hid (∀ j : Nat, j < 16 → .agg #[.int .i64 k, .int .i64 r, .int .i64 (j : Int)] = vM.kv (ky3 k r (j : Int))) := hid (fun j hj => (ky3_v hk hr (by unfold in64w; omega)).symm)
  have hS0 := hid (fun W (hM : MpS sM W nob b2 B) => look_w hM (kyB k r h))
  obtain ⟨S, hS⟩ : ∃ S, S = (findS B (kyB k r h)).getD 0 := ⟨_, rfl⟩
  rw [← hS] at Hmm hS16 hS0
  clear hS
  have hmem := hid (fun W => members_any 0 S W hS16)
  unfold vw at hmem
  rw [Hmm.out] at hmem
  have e0 : (csB k r h)[0]? = some (.int .i64 k) := rfl
  have e1 : (csB k r h)[1]? = some (.int .i64 r) := rfl
  have E0 := hid e0
  have E1 := hid e1
  obtain ⟨l, hl⟩ : ∃ l, l = memC L k r h := ⟨_, rfl⟩
  have hll : l.length ≤ 16 := by
    rw [hl]
    unfold memC
    have := List.length_filter_le (fun i => L.any (isV k r h i)) (List.range 16)
    rw [List.length_range] at this
    exact this
  rw [← hl] at HFm hmem HMv
  obtain ⟨T, hT⟩ : ∃ T, T = forC L k r h := ⟨_, rfl⟩
  rw [← hT] at HFm ⊢
  obtain ⟨lx, hlx⟩ : ∃ lx, lx = csB k r h := ⟨_, rfl⟩
  rw [← hlx] at Hl34 Hkv E0 E1 ⊢
  have hFvs : Hid (∀ i X, findS (entV L) (ky3 k r (i : Int)) = some X → X.length ≤ 1000000) := hid (fun i X hX => by
    obtain ⟨v, hv, _, e2⟩ := mem_ent (findS_mem hX)
    rw [show X = v.b from e2]
    exact HXl.out v hv)
  clear hlx hT hl e0 e1 Hmm hBR hvin HXl
  obtain ⟨W0, hW0⟩ : ∃ x, x = w.alloc (.cells lx.toArray 72) := ⟨_, rfl⟩
  have b3 : Blk W0 w.heap.size 72 lx := by rw [hW0]; exact Blk.new' w 72 lx
  have hB0 : Below w.heap.size w W0 := by rw [hW0]; exact (Below.refl _ _).alloc (Nat.le_refl _) _
  have hm := hm.below hB0
  have hsm := hsm.below hB0
  have hpl := hm.blk.lt
  obtain ⟨f, hf⟩ : ∃ f : Nat → Option (List UInt8), f = fun (i : Nat) => findS (entV L) (ky3 k r (i : Int)) := ⟨_, rfl⟩
  rw [← hf] at HFm
  have Hf := hid (fun i : Nat => congrFun hf i)
  clear hf
  go_enter Tryd.func23, Tryd.ntmps23
  go_upto_region 2 with (fail)
  first | rw [← hW0] | (simp only [List.toArray] at hW0 ⊢; rw [← hW0])
  clear hW0
  obtain ⟨g3, hg3⟩ : ∃ g, g = w.heap.size := ⟨_, rfl⟩
  rw [← hg3] at b3 ⊢
  clear hg3
  have hHC : Hid (∀ W, Ch nob W0 W → W.cell? ⟨p, 7, none⟩ = some (.map (some b2))) := hid fun W hc => (hm.blk.ch hc (fun h => h)).cellAt 7 _ rfl
  have HC := hHC
  have HK : Hid (∀ W, Ch nob W0 W → W.rangeAt g3 0 lx) := hid fun W hc => b3.chAt (fun h => h) hc
  have HS : Hid (∀ W, Ch nob W0 W → (Instr.lookup 63 (.map (some b2)) (sM.kv (kyB k r h)) false).run Tryd.prog W = .ok (.int .u16 (S : Int)) W) := hid fun W hc => hS0.out W (hsm.keep (hc.block b2 hsm.lt (fun h => h)) (fun x _ hx => hx.elim))
  clear hHC
  refine wp_region_noPanic ?_
  refine wp_region_held_drew (S := Ch nob W0) (by kernel_rfl) ((Ch.refl _ _).drew) (fun hHeld => ?_)
  refine wpAnyH_take (i := 0) (oi := ⟨some 8, _, _, _, _, none⟩) (v := ?_) rfl (by kernel_rfl) (by kernel_rfl) (by kernel_rfl) (fun _ _ _ h => h) (Or.inl ⟨by rfl, ?_⟩) (by assumption) ?_
  rotate_left
  · intro w hSw; go_simp; try with_reducible rfl
  try simp only [Act.put, List.setIfInBounds_toArray, List.set_cons_zero, List.set_cons_succ]
  refine wpAnyH_take (i := 1) (oi := ⟨some 9, _, _, _, _, none⟩) (v := ?_) rfl (by kernel_rfl) (by kernel_rfl) (by kernel_rfl) (fun _ _ _ h => h) (Or.inl ⟨by rfl, ?_⟩) (by assumption) ?_
  rotate_left
  · intro w hSw; go_simp; try with_reducible rfl
  try simp only [Act.put, List.setIfInBounds_toArray, List.set_cons_zero, List.set_cons_succ]
  refine wpAnyH_take (i := 2) (oi := ⟨some 10, _, _, _, _, none⟩) (v := ?_) rfl (by kernel_rfl) (by kernel_rfl) (by kernel_rfl) (fun _ _ _ h => h) (Or.inl ⟨by rfl, ?_⟩) (by assumption) ?_
  rotate_left
  · intro w hSw; go_simp; try with_reducible rfl
  try simp only [Act.put, List.setIfInBounds_toArray, List.set_cons_zero, List.set_cons_succ]
  refine wpAnyH_take (i := 3) (oi := ⟨some 11, _, _, _, _, none⟩) (v := ?_) rfl (by kernel_rfl) (by kernel_rfl) (by kernel_rfl) (fun _ _ _ h => h) (Or.inl ⟨by rfl, ?_⟩) (by assumption) ?_
  rotate_left
  · intro w hSw; have hcw := HC.out w hSw; go_simp; try with_reducible rfl
  try simp only [Act.put, List.setIfInBounds_toArray, List.set_cons_zero, List.set_cons_succ]
  refine wpAnyH_take (i := 4) (oi := ⟨some 12, .load 72 (.tmp 3), _, _, _, none⟩) (v := _) rfl (by kernel_rfl) (by kernel_rfl) (by kernel_rfl) (fun _ _ _ h => h) (yieldsIf_load_mid (by rfl) 72 (.tmp 3) (by rfl) _ (0) (by rfl) _ _ (fun _ hs => HK.out _ hs) Tryd.underlying72 rfl (by rw [Hl34.out]; exact sizeBl18)) (by assumption) ?_
  try simp only [Act.put, List.setIfInBounds_toArray, List.set_cons_zero, List.set_cons_succ]
  refine wpAnyH_take (i := 5) (oi := ⟨some 13, _, _, _, _, none⟩) (v := _) rfl (by kernel_rfl) (by kernel_rfl) (by kernel_rfl) (fun _ _ _ h => h) (y_look (T := sM) 63 (.tmp 11) (.tmp 12) (by rfl) (by rfl) (by rfl) (by rfl) Hkv.out HS.out) (by assumption) ?_
  try simp only [Act.put, List.setIfInBounds_toArray, List.set_cons_zero, List.set_cons_succ]
  refine wpAnyH_take (i := 6) (oi := ⟨some 14, _, _, _, _, none⟩) (v := _) rfl (by kernel_rfl) (by kernel_rfl) (by kernel_rfl) (fun _ _ _ h => h) (y_bld (by rfl) 24 [(1, .tmp 13)] (by rfl) [(1, .int .u16 (S : Int))] (by rfl) (bldVw18 _)) (by assumption) ?_
  try simp only [Act.put, List.setIfInBounds_toArray, List.set_cons_zero, List.set_cons_succ]
  refine wpAnyH_take (i := 9) (oi := ⟨some 17, _, _, _, _, none⟩) (v := ?_) rfl (by kernel_rfl) (by kernel_rfl) (by kernel_rfl) (fun _ _ _ h => h) (Or.inl ⟨by rfl, ?_⟩) (by assumption) ?_
  rotate_left
  · intro w hSw; go_simp; try with_reducible rfl
  try simp only [Act.put, List.setIfInBounds_toArray, List.set_cons_zero, List.set_cons_succ]
  refine wpAnyH_ready (rs := [7]) (by kernel_rfl) (by simp) ?_
  refine AllReadyH.cons (o := ⟨some 15, _, _, _, _, none⟩) rfl (fun K hK => ?_) AllReadyH.nil
  go_simp
  refine (hmem.out _).mono ?_
  rintro e' w4 ⟨v4, rfl, ho4, hB4⟩
  obtain ⟨A4, c4, rfl⟩ := own_shape ho4
  have hC4 := hHeld.belowR hB4
  refine hK.out _ _ (hC4) (fun hHeld => ?_)
  clear hK K
  try simp only [Act.put, List.setIfInBounds_toArray, List.set_cons_zero, List.set_cons_succ]
  refine wpAnyH_take (i := 8) (oi := ⟨some 16, _, _, _, _, none⟩) (v := ?_) rfl (by kernel_rfl) (by kernel_rfl) (by kernel_rfl) (fun _ _ _ h => h) (Or.inl ⟨by rfl, ?_⟩) (by assumption) ?_
  rotate_left
  · intro w hSw; go_simp; try with_reducible rfl
  try simp only [Act.put, List.setIfInBounds_toArray, List.set_cons_zero, List.set_cons_succ]
  refine wpAnyH_done (by kernel_rfl) ?_ _
  refine NoPanic.normal ?_
  have hm4 := hm.below hC4.below
  have b3 := b3.below hC4.below
  have hB4' := hB0.trans (hC4.below.mono hB0.size)
  have hsz4 : w.heap.size ≤ w4.heap.size := hB4'.size
  have hg34 : g3 < w4.heap.size := b3.lt
  have hOT := OT.nil w4 35 w4.heap.size nob
  clear HC HK HS hHeld hB4 hm hsm hB0 hC4 hS0 Hkv
  go_wp2
  go_loopw [5, 17] (fun ov iv wr => ∃ (i : Nat) (us' : List Value), i ≤ l.length ∧ iv = .int .i64 i ∧ OT wr 35 w4.heap.size nob ov ((l.take i).filterMap f) us' ∧ Below w4.heap.size w4 wr) (fun _ i _ => l.length - (intOf i).toNat)
  case atStart => exact ⟨0, [], by omega, rfl, hOT, Below.refl _ _⟩
  case round =>
    clear hOT
    obtain ⟨i, us', hi, rfl, hOT, hBr⟩ := hrel
    have hszr := hBr.size
    by_cases hlt : i < l.length
    · have hI : (i : Int) < (l.length : Int) := by omega
      obtain ⟨j, hj⟩ : ∃ j, l[i]? = some j := ⟨_, List.getElem?_eq_getElem hlt⟩
      obtain ⟨g23, c23, hv23, hg1, hg2, hc23⟩ := own_cellAt ho4 i _ (ivs_at l i j hj)
      injection hv23 with hA4 _ hc4
      subst hA4
      obtain ⟨X, hfX, hj16⟩ := HMv.out j (List.mem_of_getElem? hj)
      have hXl : X.length ≤ 1000000000 := Nat.le_trans (hFvs.out j X hfX) (by omega)
      have Hnx := hid (fm_next18 (f := f) hj (by rw [Hf.out]; exact hfX))
      have hfl := fm_len18 (f := f) (L := l) (i := i)
      have HkP := hid (HkP.out j hj16)
      obtain ⟨D, hD⟩ : ∃ D, D = (l.take i).filterMap f := ⟨_, rfl⟩
      rw [← hD] at hOT Hnx hfl
      have c23' := (hBr.cell hg2).trans hc23
      have hmr := hm4.below hBr
      have b3r := b3.below hBr
      clear hj hD hc4 hg1 hc23
      go_upto_region 5 with (fail)
      obtain ⟨wq, hwq⟩ : ∃ wq, wq = wr := ⟨_, rfl⟩
      rw [← hwq] at hOT hBr hszr hmr b3r c23' ⊢
      clear hwq
      have hnp : ∀ y, y < w4.heap.size → ¬ u5.ownBlock = some y := fun y hy e => by have := (hOT.own.lt y e).1; omega
      have HC : Hid (∀ W, Ch (fun x => u5.ownBlock = some x) wq W → W.cell? ⟨p, 6, none⟩ = some (.map (some b1))) := hid fun W hc => (hmr.blk.ch hc (hnp p hm4.blk.lt)).cellAt 6 _ rfl
      have HK0 : Hid (∀ W, Ch (fun x => u5.ownBlock = some x) wq W → W.cell? ⟨g3, 0, none⟩ = some (.int .i64 k)) := hid fun W hc => (b3r.ch hc (hnp g3 hg34)).cellAt 0 _ E0.out
      have HK1 : Hid (∀ W, Ch (fun x => u5.ownBlock = some x) wq W → W.cell? ⟨g3, 1, none⟩ = some (.int .i64 r)) := hid fun W hc => (b3r.ch hc (hnp g3 hg34)).cellAt 1 _ E1.out
      have HM : Hid (∀ W, Ch (fun x => u5.ownBlock = some x) wq W → MpS vM W F b1 (entV L)) := hid fun W hc => hmr.vm.keep (hc.block b1 hmr.vm.lt (hnp b1 hm4.vm.lt)) (fun y hy hF => ⟨hF, hc.block y hy (hnp y (hm4.f y hF).2.2.2)⟩)
      refine wp_region_noPanic ?_
      refine wp_region_held_drew (S := Ch (fun x => u5.ownBlock = some x) wq) (by kernel_rfl) ((Ch.refl _ _).drew) (fun hHeld => ?_)
      refine wpAnyH_take (i := 0) (oi := ⟨some 21, _, _, _, _, none⟩) (v := ?_) rfl (by kernel_rfl) (by kernel_rfl) (by kernel_rfl) (fun _ _ _ h => h) (Or.inl ⟨by rfl, ?_⟩) (by assumption) ?_
      rotate_left
      · intro w hSw; go_simp; try with_reducible rfl
      try simp only [Act.put, List.setIfInBounds_toArray, List.set_cons_zero, List.set_cons_succ]
      refine wpAnyH_take (i := 1) (oi := ⟨some 22, _, _, _, _, none⟩) (v := ?_) rfl (by kernel_rfl) (by kernel_rfl) (by kernel_rfl) (fun _ _ _ h => h) (Or.inl ⟨by rfl, ?_⟩) (by assumption) ?_
      rotate_left
      · intro w hSw; go_simp; try with_reducible rfl
      try simp only [Act.put, List.setIfInBounds_toArray, List.set_cons_zero, List.set_cons_succ]
      refine wpAnyH_take (i := 2) (oi := ⟨some 23, _, _, _, _, none⟩) (v := ?_) rfl (by kernel_rfl) (by kernel_rfl) (by kernel_rfl) (fun _ _ _ h => h) (Or.inl ⟨by rfl, ?_⟩) (by assumption) ?_
      rotate_left
      · intro w hSw; go_simp; try with_reducible rfl
      try simp only [Act.put, List.setIfInBounds_toArray, List.set_cons_zero, List.set_cons_succ]
      refine wpAnyH_take (i := 3) (oi := ⟨some 24, _, _, _, _, none⟩) (v := ?_) rfl (by kernel_rfl) (by kernel_rfl) (by kernel_rfl) (fun _ _ _ h => h) (Or.inl ⟨by rfl, ?_⟩) (by assumption) ?_
      rotate_left
      · intro w hSw; go_simp; try with_reducible rfl
      try simp only [Act.put, List.setIfInBounds_toArray, List.set_cons_zero, List.set_cons_succ]
      refine wpAnyH_take (i := 4) (oi := ⟨some 25, _, _, _, _, none⟩) (v := ?_) rfl (by kernel_rfl) (by kernel_rfl) (by kernel_rfl) (fun _ _ _ h => h) (Or.inl ⟨by rfl, ?_⟩) (by assumption) ?_
      rotate_left
      · intro w hSw; have hcw := HC.out w hSw; go_simp; try with_reducible rfl
      try simp only [Act.put, List.setIfInBounds_toArray, List.set_cons_zero, List.set_cons_succ]
      refine wpAnyH_take (i := 5) (oi := ⟨some 26, _, _, _, _, none⟩) (v := ?_) rfl (by kernel_rfl) (by kernel_rfl) (by kernel_rfl) (fun _ _ _ h => h) (Or.inl ⟨by rfl, ?_⟩) (by assumption) ?_
      rotate_left
      · intro w hSw; go_simp; try with_reducible rfl
      try simp only [Act.put, List.setIfInBounds_toArray, List.set_cons_zero, List.set_cons_succ]
      refine wpAnyH_take (i := 6) (oi := ⟨some 27, _, _, _, _, none⟩) (v := ?_) rfl (by kernel_rfl) (by kernel_rfl) (by kernel_rfl) (fun _ _ _ h => h) (Or.inl ⟨by rfl, ?_⟩) (by assumption) ?_
      rotate_left
      · intro w hSw; have hcw := HK0.out w hSw; go_simp; try with_reducible rfl
      try simp only [Act.put, List.setIfInBounds_toArray, List.set_cons_zero, List.set_cons_succ]
      refine wpAnyH_take (i := 7) (oi := ⟨some 28, _, _, _, _, none⟩) (v := ?_) rfl (by kernel_rfl) (by kernel_rfl) (by kernel_rfl) (fun _ _ _ h => h) (Or.inl ⟨by rfl, ?_⟩) (by assumption) ?_
      rotate_left
      · intro w hSw; go_simp; try with_reducible rfl
      try simp only [Act.put, List.setIfInBounds_toArray, List.set_cons_zero, List.set_cons_succ]
      refine wpAnyH_take (i := 8) (oi := ⟨some 29, _, _, _, _, none⟩) (v := ?_) rfl (by kernel_rfl) (by kernel_rfl) (by kernel_rfl) (fun _ _ _ h => h) (Or.inl ⟨by rfl, ?_⟩) (by assumption) ?_
      rotate_left
      · intro w hSw; have hcw := HK1.out w hSw; go_simp; try with_reducible rfl
      try simp only [Act.put, List.setIfInBounds_toArray, List.set_cons_zero, List.set_cons_succ]
      refine wpAnyH_take (i := 9) (oi := ⟨some 30, _, _, _, _, none⟩) (v := ?_) rfl (by kernel_rfl) (by kernel_rfl) (by kernel_rfl) (fun _ _ _ h => h) (Or.inl ⟨by rfl, ?_⟩) (by assumption) ?_
      rotate_left
      · intro w hSw; go_simp; try with_reducible rfl
      try simp only [Act.put, List.setIfInBounds_toArray, List.set_cons_zero, List.set_cons_succ]
      refine wpAnyH_take (i := 10) (oi := ⟨some 31, _, _, _, _, none⟩) (v := _) rfl (by kernel_rfl) (by kernel_rfl) (by kernel_rfl) (fun _ _ _ h => h) (y_bld (by rfl) 69 [(0, .tmp 27), (1, .tmp 29), (2, .tmp 30)] (by rfl) [(0, .int .i64 k), (1, .int .i64 r), (2, .int .i64 (j : Int))] (by rfl) (bldPl18 _ _ _)) (by assumption) ?_
      try simp only [Act.put, List.setIfInBounds_toArray, List.set_cons_zero, List.set_cons_succ]
      refine wpAnyH_ready (rs := [11]) (by kernel_rfl) (by simp) ?_
      refine AllReadyH.cons (o := ⟨some 32, .lookup _ _ _ _, _, _, _, none⟩) rfl (fun K hK => ?_) AllReadyH.nil
      refine step_lookS 62 35 (.tmp 25) (.tmp 31) false (by rfl) (by rfl) Tryd.underlying62 (zBy18 _) (by rfl) (HM.out _ hHeld) (s := ky3 k r (j : Int)) HkP.out ?_ ?_
      · intro h; rw [hfX] at h; cases h
      intro d2 v hd2 hv2
      rw [hfX] at hd2
      injection hd2 with hd2
      subst hd2
      rw [if_neg (by simp)]
      obtain ⟨A6, c6, rfl⟩ := Rd.shape (bs := X) hv2
      refine hK.out _ _ (hHeld) (fun hHeld => ?_)
      clear hK K
      try simp only [Act.put, List.setIfInBounds_toArray, List.set_cons_zero, List.set_cons_succ]
      refine wpAnyH_ready (rs := [12]) (by kernel_rfl) (by simp) ?_
      refine AllReadyH.cons (o := ⟨some 33, _, _, _, _, none⟩) rfl (fun K hK => ?_) AllReadyH.nil
      go_simp
      refine (bclone_any X _ _ _ hv2 hXl).mono ?_
      rintro e' w7 ⟨v7, rfl, ho7, hB7⟩
      obtain ⟨A8, c8, rfl⟩ := own_shape ho7
      have hC7 := hHeld.belowR hB7
      have hOd := hOT.ch (G := nob) (Ch.refl nob wq).drew (fun _ e => e.elim)
      have hv7 := OT.fresh18 hOd ho7 hszr
      have hO7 := hOd.ch (G := nob) (Ch.of_below hB7) (fun _ e => e.elim)
      have hs7 := hB7.size
      refine hK.out _ _ (hC7) (fun hHeld => ?_)
      clear hK K
      try simp only [Act.put, List.setIfInBounds_toArray, List.set_cons_zero, List.set_cons_succ]
      refine wpAnyH_ready (rs := [13]) (by kernel_rfl) (by simp) ?_
      refine AllReadyH.cons (o := ⟨some 34, .buildSlice 30 1 _, _, _, _, none⟩) rfl (fun K hK => ?_) AllReadyH.nil
      refine step_bs18 slBB8 (.tmp 33) (by rfl) (by rfl) (u := .slice A8 X.length c8) (by rfl) rfl ?_
      rintro gb w9 hgb hb9 hB9
      have hO9 := hO7.ch (G := nob) (Ch.of_below hB9) (fun _ e => e.elim)
      have hv9 := hv7.below hB9
      have hC9 := hC7.belowR hB9
      have hs9 := hB9.size
      refine hK.out _ _ (hC9) (fun hHeld => ?_)
      clear hK K
      try simp only [Act.put, List.setIfInBounds_toArray, List.set_cons_zero, List.set_cons_succ]
      refine wpAnyH_ready (rs := [14]) (by kernel_rfl) (by simp) ?_
      refine AllReadyH.cons (o := ⟨some 35, _, _, _, _, none⟩) rfl (fun K hK => ?_) AllReadyH.nil
      refine step_app18 (.tmp 21) (.tmp 34) slBB8 (by rfl) (by rfl) (by rfl) hO9.own (by rfl) (m := 1) (news := [.slice A8 X.length c8]) ⟨rfl, fun j u hj => ⟨gb, 0, rfl, by cases j with | zero => injection hj with hj; subst hj; exact hb9.cellAt 0 _ rfl | succ j => simp at hj⟩⟩ (by simp [Value.oneCell']) (by simp only [maxLen]; omega) (by omega) (Nat.le_trans hszr (Nat.le_trans hs7 hs9)) ?_
      rintro v10 w10 ho10 hG10 hd10
      refine hK.out _ _ (hC9.grow hG10 (fun k hk => .inl hk)) (fun hHeld => ?_)
      clear hK K
      try simp only [Act.put, List.setIfInBounds_toArray, List.set_cons_zero, List.set_cons_succ]
      refine wpAnyH_take (i := 15) (oi := ⟨some 5, _, _, _, _, none⟩) (v := ?_) rfl (by kernel_rfl) (by kernel_rfl) (by kernel_rfl) (fun _ _ _ h => h) (Or.inl ⟨by rfl, ?_⟩) (by assumption) ?_
      rotate_left
      · intro w hSw; go_simp; try with_reducible rfl
      try simp only [Act.put, List.setIfInBounds_toArray, List.set_cons_zero, List.set_cons_succ]
      refine wpAnyH_done (by kernel_rfl) ?_ _
      refine NoPanic.normal ?_
      have hO10 := OT.push hO9 hv9 (fun b h => h.elim) ho10 hG10 hd10
      have hB10 : Below w4.heap.size w4 w10 := Ch.below_of hBr hHeld (fun k hk => (hOT.own.lt k hk).1) hszr
      have HO := hid hO10
      have HB := hid hB10
      clear hO10 hB10 HC HK0 HK1 HM hHeld hO9 hv9 ho10 hG10 hd10 hO7 hv7 hOd hC7 hC9 hb9 hB9 hB7 ho7 hv2 hOT hmr b3r c23' hBr hnp
      go_wp2
      go_roundw
      case rel => exact ⟨i + 1, _, by omega, by go_num, by rw [Hnx.out]; exact HO.out, HB.out⟩
      case measure => simp [intOf]; omega
    · have hI : ¬ (i : Int) < (l.length : Int) := by omega
      have htk : l.take i = l := List.take_of_length_le (by omega)
      rw [htk, ← HFm.out] at hOT
      have hfin := hOT.rd
      obtain ⟨Ao, co, rfl⟩ := own_shape hOT.own
      have hBe := hB4'.trans (hBr.mono hsz4)
      clear htk
      go_wp2
      go_ret
      exact ⟨_, rfl, hfin.weak (fun b _ h => Nat.le_trans hsz4 h), hBe⟩
end Go.Proofs.YtmjpkdehkdpdpaaDoor
