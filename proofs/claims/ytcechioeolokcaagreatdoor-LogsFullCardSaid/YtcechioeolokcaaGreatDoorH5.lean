/- H5: several texts in one (H2 H3 SrtF H4 H5). -/
import Derived.Test.YtcechioeolokcaaGreatDoorH1
import Derived.Test.YtcechioeolokcaaGreatDoorSA
import Derived.Test.YtcechioeolokcaaGreatDoorN8
import Derived.Test.YtcechioeolokcaaGreatDoorE9
import Derived.Test.YtcechioeolokcaaGreatDoorR2
import Derived.BigQuiet
import Derived.Shelf.SlSortCmp.NoneTotal
import Derived.Test.YtcechioeolokcaaGreatDoorProg
import Derived.Test.YtcechioeolokcaaGreatDoorDC
/- H2: layer 11: a record's bytes; a reader of records. -/
namespace Go.V
open Go.RowKit
end Go.V
namespace Go.Proofs.YtcechioeolokcaaGreatDoor
open Go.RowKit Go.V
theorem len_rec (n : Nat) (t : List UInt8) : (recF n t).length = psz n + psz t.length + t.length + 8 := by
  unfold recF
  simp only [List.length_append, List.length_take, length_packed, len_sha]
  omega
set_option maxRecDepth 100000 in
set_option maxHeartbeats 2000000 in
theorem bytesOf_e (n : Nat) (t : List UInt8) (vt : Value) (F : Nat → Prop) (w : World) (hK : KS w) (hn : n < 18446744073709551616) (hv : Rd w F vt (bys t)) (ht : t.length ≤ 1000000) :
    Calls Tryz.prog 36 #[.int .u64 (n : Int), vt] w fun e w' => ∃ v, e = .returned v ∧ NewB w w' v (recF n t) := by
  obtain ⟨At, ct, rfl⟩ := hv.shape
  obtain ⟨X, hX⟩ : ∃ X, X = packed n ++ (packed t.length ++ t) := ⟨_, rfl⟩
  have hXl : X.length ≤ 1000100 := by
    have h1 := psz_bd n
    have h2 := psz_bd t.length
    rw [hX]
    simp only [List.length_append, length_packed]
    omega
  have hrf : recF n t = X ++ (shaF X).take 8 := by rw [hX]; rfl
  rw [hrf]
  have HX := hid hX
  clear hX hrf
  have hnil : ∀ W : World, Rd W (fun _ => True) (.slice none 0 0) (bys []) := fun W => Rd.nil W _
  go_enter Tryz.func36, Tryz.ntmps36
  go_wp2_with (fail)
  refine (putp_any _ [] n _ _ (hnil _) hn (by simp)).mono ?_
  rintro e w1 ⟨v1, rfl, ho1, hB1⟩
  obtain ⟨A1, c1, rfl⟩ := own_shape ho1
  have hv1 := hv.below hB1
  have hr1 : Rd w1 (fun _ => True) (.slice A1 ([] ++ packed n).length c1) (bys ([] ++ packed n)) := (Rd.of_own ho1).weak (fun _ _ _ => trivial)
  go_wp2_with (fail)
  refine (putt_any _ _ ([] ++ packed n) t _ _ _ hr1 hv1 (by simp [length_packed]; have := psz_bd n; omega) (by omega)).mono ?_
  rintro e w2 ⟨v2, rfl, ho2, hB2⟩
  rw [List.nil_append, ← HX.out] at ho2
  obtain ⟨A2, c2, rfl⟩ := own_shape ho2
  have hB2' := hB1.trans (hB2.mono hB1.size)
  have hr2 : Rd w2 (fun _ => True) (.slice A2 X.length c2) (bys X) := (Rd.of_own ho2).weak (fun _ _ _ => trivial)
  go_wp2_with (fail)
  refine (sum_any _ X _ _ (hK.below hB2') hr2 (by omega)).mono ?_
  rintro e w3 ⟨rfl, hB3⟩
  have ho3 := own_bel ho2 hB3
  have hB3' := hB2'.trans (hB3.mono hB2'.size)
  have hg1 := hB1.size
  have hg2 : w1.heap.size ≤ w3.heap.size := by have := hB2.size; have := hB3.size; omega
  clear hB1 hB2 hB2' hB3 ho1 ho2 hr1 hr2 hv1
  go_wp2_with (refine wp_newst 101 6 (.tmp 12) rfl rfl rfl rfl rfl rfl zero25 (l := bvs (shaF X)) rfl (by simp [zs8, len_bvs, len_sha]) (by rw [len_bvs, len_sha]; exact size25) (oneCell_bvs _) (by simp) ?_; intro w4 hq4 hB4 hs4; refine wp_stop ?_)
  have ho4 := own_bel ho3 hB4
  have hB4' := hB3'.trans (hB4.mono hB3'.size)
  obtain ⟨gq, hgq⟩ : ∃ g, g = w3.heap.size := ⟨_, rfl⟩
  rw [← hgq] at hq4 hs4 ⊢
  have hsl := fun W => run_sla_h und25 size8 gq 0 8 .i64 8 rfl (by omega) (by omega) W
  have hsrc := (Blk.rdcut hq4 8 32 (by rw [len_sha]; omega) (by omega) (by simp [maxLen])).src
  have hwq : w.heap.size ≤ gq := by have := hB3'.size; omega
  have hg3 : w1.heap.size ≤ w4.heap.size := Nat.le_trans hg2 hB4.size
  clear hB4 ho3 hgq hg2
  refine wp_go ?_
  rw [show (List.take 8 (shaF X)).length = 8 from by rw [List.length_take, len_sha]; rfl] at hsrc
  go_wp2_with (with_reducible refine wp_at 15 rfl ?_)
  refine wp_on ?_
  refine wp_app (.tmp 13) (.tmp 14) slB rfl rfl rfl ho4 rfl hsrc (oneCell_bvs _) (by simp only [maxLen]; omega) (by omega) hg3 ?_
  intro v5 w5 ho5 hG5 _
  go_wp2
  go_ret
  refine ⟨v5, rfl, ?_, hB4'.grown hG5 hB4'.size (fun k hk => by have := (ho4.lt k hk).1; omega)⟩
  have e : bvs X ++ bvs (List.take 8 (shaF X)) = bvs (X ++ List.take 8 (shaF X)) := by simp [bvs]
  rw [e] at ho5
  rw [show (X ++ List.take 8 (shaF X)).length = X.length + 8 from by rw [List.length_append, List.length_take, len_sha]; omega]
  exact own_weak ho5 hg1
/-- a reader of records of bs, that stands at k: its two boxes rx and bx, the bytes' reader p -/
def RG (w : World) (rx bx p : Nat) (G F : Nat → Prop) (bs : List UInt8) (k : Nat) : Prop :=
  ∃ v, Blk w rx 110 [.pointer (some ⟨p, 0, none⟩)] ∧ Blk w bx 33 [v] ∧ Rd w F v (bys bs) ∧ RdR w p G bs k ∧ rx ≠ p ∧ bx ≠ p ∧ ¬ F p ∧ ∀ b, G b → b < p
theorem RG.keep {w w' : World} {rx bx p : Nat} {G F : Nat → Prop} {bs : List UInt8} {k : Nat} (h : RG w rx bx p G F bs k) (hk : ∀ b, b < w.heap.size → b = rx ∨ b = bx ∨ b = p ∨ G b ∨ F b → w'.heap[b]? = w.heap[b]?) : RG w' rx bx p G F bs k := by
  obtain ⟨v, h1, h2, h3, h4, h5, h6, h7, h8⟩ := h
  have hp : p < w.heap.size := by obtain ⟨_, h, _⟩ := h4; exact lt_of_block h
  exact ⟨v, h1.keep (hk _ h1.lt (.inl rfl)), h2.keep (hk _ h2.lt (.inr (.inl rfl))), h3.keep (fun b hb hf => ⟨hf, hk b hb (.inr (.inr (.inr (.inr hf))))⟩), h4.keep (hk _ hp (.inr (.inr (.inl rfl)))) (fun b hb hf => hk b hb (.inr (.inr (.inr (.inl hf))))), h5, h6, h7, h8⟩
set_option maxRecDepth 100000 in
set_option maxHeartbeats 2000000 in
theorem reading_e (v : Value) (bs : List UInt8) (F : Nat → Prop) (w : World) (hv : Rd w F v (bys bs)) (hn : bs.length ≤ 35184372088832) (hF : ∀ b, F b → b < w.heap.size) :
    Calls Tryz.prog 49 #[v] w fun e w' => ∃ rx bx p G, e = .returned (.func (.func 68) #[] #[.pointer (some ⟨rx, 0, none⟩), .pointer (some ⟨bx, 0, none⟩)]) ∧ RG w' rx bx p G F bs 0 ∧ (∀ b, G b → w.heap.size ≤ b) ∧ w.heap.size ≤ rx ∧ w.heap.size ≤ bx ∧ w.heap.size ≤ p ∧ Below w.heap.size w w' := by
  obtain ⟨A, c, rfl⟩ := hv.shape
  have hB0 : Below w.heap.size w (w.alloc (.cells #[.slice A bs.length c] 33)) := (Below.refl _ _).alloc (Nat.le_refl _) _
  have b0 := Blk.new' w 33 [.slice A bs.length c]
  go_enter Tryz.func49, Tryz.ntmps49
  go_wp2_with (fail)
  refine (new_any _ bs F _ (hv.below hB0) hn).mono ?_
  rintro e w1 ⟨p, rfl, hp, hr1, hB1⟩
  have hs0 := hB0.size
  have hv1 := (hv.below hB0).below hB1
  have b1 := b0.below hB1
  have hB1' := hB0.trans (hB1.mono hs0)
  have hpl : p < w1.heap.size := by obtain ⟨_, h, _⟩ := hr1; exact lt_of_block h
  have hsz : (w.alloc (.cells #[.slice A bs.length c] 33)).heap.size = w.heap.size + 1 := by simp
  rw [hsz] at hp
  obtain ⟨G, hG⟩ : ∃ G : Nat → Prop, G = fun b => (w.alloc (.cells #[.slice A bs.length c] 33)).heap.size ≤ b ∧ b < p := ⟨_, rfl⟩
  rw [← hG] at hr1
  have hGw : ∀ b, G b → w.heap.size ≤ b := fun b h => by rw [hG, hsz] at h; omega
  have hGp : ∀ b, G b → b < p := fun b h => by rw [hG] at h; exact h.2
  clear hG hsz b0 hB1 hB0 hv
  go_wp2
  go_ret
  have hB2 : Below w1.heap.size w1 (w1.alloc (.cells #[.pointer (some ⟨p, 0, none⟩)] 110)) := (Below.refl _ _).alloc (Nat.le_refl _) _
  have hs1 := hB1'.size
  exact ⟨w1.heap.size, w.heap.size, p, G, rfl, ⟨_, Blk.new' w1 110 [.pointer (some ⟨p, 0, none⟩)], b1.alloc _, hv1.below hB2, hr1.belowR hB2, by omega, by omega, (fun h => by have := hF p h; omega), hGp⟩, hGw, hs1, Nat.le_refl _, by omega, hB1'.trans (hB2.mono hs1)⟩
theorem sizeRec : (Tryz.prog.info? 87).map (·.size) = some 3 := by kernel_rfl
def zRec : List Value := [.int .u64 0, .slice none 0 0, .int .i64 0]
theorem zeroRec : (Tryz.prog.info? 87).map (·.zero) = some (some (.agg zRec.toArray)) := by kernel_rfl
theorem fixRd_8 (l : List UInt8) (h : 8 ≤ l.length) : ∃ x, fixRd 8 l = .ok x := by
  unfold fixRd
  rw [if_pos (by decide), if_neg (by show ¬ l.length < 8; omega)]
  exact ⟨_, rfl⟩
set_option maxRecDepth 100000 in
set_option maxHeartbeats 4000000 in
/-- no record is left -/
theorem read_end (rx bx p : Nat) (G F : Nat → Prop) (bs : List UInt8) (w : World) (h : RG w rx bx p G F bs bs.length) :
    Calls Tryz.prog 68 #[.pointer (some ⟨rx, 0, none⟩), .pointer (some ⟨bx, 0, none⟩)] w fun e w' => e = .returned (.tuple #[.agg zRec.toArray, .bool false]) ∧ Ch (only p) w w' := by
  obtain ⟨v, h1, h2, h3, h4, h5, h6, h7, h8⟩ := h
  have hrl := h1.lt
  have hB0 : Below w.heap.size w (w.alloc (.cells zRec.toArray 87)) := (Below.refl _ _).alloc (Nat.le_refl _) _
  have bz := Blk.new' w 87 zRec
  have r0 := h4.belowR hB0
  have x0 := h1.below hB0
  have hp : p < w.heap.size := by obtain ⟨_, h, _⟩ := h4; exact lt_of_block h
  obtain ⟨w0, hw0⟩ : ∃ w0, w0 = w.alloc (.cells zRec.toArray 87) := ⟨_, rfl⟩
  obtain ⟨g0, hg0⟩ : ∃ g0, g0 = w.heap.size := ⟨_, rfl⟩
  go_enter Tryz.func68, Tryz.ntmps68
  go_wp2_with (first | (refine wp_new 87 rfl rfl zeroRec ?_; refine wp_stop ?_))
  have hB0' := hB0
  rw [← hw0] at bz r0 x0 hB0 ⊢
  rw [← hg0] at bz ⊢
  have hgw : w.heap.size ≤ g0 := by omega
  have hgp : g0 ≠ p := by omega
  clear hw0 hB0' hg0
  have hgl := bz.lt
  have hrp : rx ≠ p := h5
  have hc0 := x0.cellAt 0 _ rfl
  refine wp_go ?_
  go_wp2_with (fail)
  refine (at_any p G bs bs.length _ r0).mono ?_
  rintro e w1 ⟨rfl, rfl⟩
  have hk : Calls Tryz.prog 70 #[rp p] w0 fun e w' => e = .returned (.tuple #[.int .u64 0, .int .i64 1]) ∧ RdR w' p G bs bs.length ∧ Ch (only p) w0 w' := by
    have h := packed_any p G bs bs.length _ r0
    rw [show readPk (bs.drop bs.length) = .error 1 from by rw [List.drop_length]; rfl] at h
    exact h
  have Hk := hid hk
  clear hk
  go_wp2_with (fail)
  refine Hk.out.mono ?_
  rintro e w2 ⟨rfl, hr2, hC2⟩
  have hz2 := bz.ch hC2 (by intro h; exact hgp h)
  have hC2' : Ch (only p) w w2 := ((Ch.of_below hB0).weaken (fun _ _ e => e.elim)).trans hC2
  clear Hk hC2 r0 hr2 h3 h4 x0 bz hB0
  go_wp2_with (first | (refine wp_st 87 (.tmp 2) (.tmp 20) rfl rfl rfl (f := 0) rfl (l := zRec) rfl hz2 (by simp [zRec]) sizeRec (by decide) ?_; intro w3 hb3 hG3; refine wp_stop ?_))
  refine wp_go ?_
  go_wp2
  refine ret_cell1 rfl rfl rfl hb3.whole Tryz.underlying87 rfl sizeRec rfl ?_
  exact ⟨rfl, hC2'.grow hG3 (fun k hk => by injection hk with hk; exact .inr (by omega))⟩
theorem one_rec {n k : Int} {A : Option Addr} {m c : Nat} : ∀ v ∈ [Value.int .u64 n, .slice A m c, .int .i64 k], v.oneCell' = true := by
  intro v hv
  simp at hv
  rcases hv with rfl | rfl | rfl <;> rfl
set_option maxRecDepth 100000 in
set_option maxHeartbeats 4000000 in
/-- a record is read -/
theorem read_rec (rx bx p k n : Nat) (G F : Nat → Prop) (bs t R : List UInt8) (w : World) (hK : KS w) (h : RG w rx bx p G F bs k) (hd : bs.drop k = recF n t ++ R) (hn : n < 18446744073709551616) (ht : t.length ≤ 1000000) (hbs : bs.length ≤ 35184372088832) (_hkn : n ≤ 1000000000) (hpK : p ≠ (0 : Nat)) :
    Calls Tryz.prog 68 #[.pointer (some ⟨rx, 0, none⟩), .pointer (some ⟨bx, 0, none⟩)] w fun e w' => ∃ A c, e = .returned (.tuple #[.agg #[.int .u64 (n : Int), .slice A t.length c, .int .i64 ((k + (recF n t).length : Nat) : Int)], .bool true]) ∧ Rd w' (fun b => w.heap.size ≤ b) (.slice A t.length c) (bys t) ∧ RG w' rx bx p G F bs (k + (recF n t).length) ∧ Ch (only p) w w' := by
  obtain ⟨v, h1, h2, h3, h4, h5, h6, h7, h8⟩ := h
  obtain ⟨Ab, cb, rfl⟩ := h3.shape
  have hlr := len_rec n t
  have hL : k + (recF n t).length ≤ bs.length := by
    have := congrArg List.length hd
    simp only [List.length_drop, List.length_append] at this
    have h0 : k ≤ bs.length := by obtain ⟨_, _, _, h, _⟩ := h4; exact h
    omega
  obtain ⟨L, hLd⟩ : ∃ L, L = (recF n t).length := ⟨_, rfl⟩
  have hpn := psz_bd n
  have hpt := psz_bd t.length
  -- what each reading finds
  have q1 : readPk (bs.drop k) = .ok (n, psz n) := by rw [hd]; unfold recF; rw [List.append_assoc, List.append_assoc]; exact readPk_packed n _ hn
  have d2 : bs.drop (k + psz n) = (packed t.length ++ t) ++ ((shaF (packed n ++ (packed t.length ++ t))).take 8 ++ R) := by
    rw [← List.drop_drop, hd]
    unfold recF
    rw [List.append_assoc, List.append_assoc, ← length_packed, List.drop_left]
  have q2 : textR 9223372036854775807 (bs.drop (k + psz n)) = .ok (t.length, psz t.length) := by rw [d2]; exact textR_of 9223372036854775807 t _ (by omega) (by omega)
  have q2t : (((bs.drop (k + psz n)).drop (psz t.length)).take t.length) = t := by
    rw [d2, List.append_assoc, ← length_packed, List.drop_left, List.take_left]
  have d3 : bs.drop (k + psz n + (psz t.length + t.length)) = (shaF (packed n ++ (packed t.length ++ t))).take 8 ++ R := by
    rw [← List.drop_drop, d2, show psz t.length + t.length = (packed t.length ++ t).length from by rw [List.length_append, length_packed], List.drop_left]
  obtain ⟨fx, hfx⟩ := fixRd_8 (bs.drop (k + psz n + (psz t.length + t.length))) (by rw [d3, List.length_append, List.length_take, len_sha]; omega)
  have hcut : (bs.drop k).take L = recF n t := by rw [hd, hLd, List.take_left]
  have hLs : L = psz n + psz t.length + t.length + 8 := by rw [hLd, hlr]
  rw [← hLd] at hL ⊢
  have Hq2t := hid q2t
  have Hcut := hid hcut
  have HLs := hid hLs
  clear d2 d3 q2t hcut hd hLd hlr
  -- the walk
  have hrl := h1.lt
  have hbl := h2.lt
  have hB0 : Below w.heap.size w (w.alloc (.cells zRec.toArray 87)) := (Below.refl _ _).alloc (Nat.le_refl _) _
  have bz := Blk.new' w 87 zRec
  have r0 := h4.belowR hB0
  have x0 := h1.below hB0
  have y0 := h2.below hB0
  have v0 := (h3.weak (F' := fun b => F b ∧ b < w.heap.size) (fun b hb e => ⟨e, hb⟩)).below hB0
  have K0 := hK.below hB0
  have hp : p < w.heap.size := by obtain ⟨_, h, _⟩ := h4; exact lt_of_block h
  obtain ⟨w0, hw0⟩ : ∃ w0, w0 = w.alloc (.cells zRec.toArray 87) := ⟨_, rfl⟩
  obtain ⟨g0, hg0⟩ : ∃ g0, g0 = w.heap.size := ⟨_, rfl⟩
  have q1' : Calls Tryz.prog 70 #[rp p] w0 fun e w' => e = .returned (.tuple #[.int .u64 (n : Int), .int .i64 0]) ∧ RdR w' p G bs (k + psz n) ∧ Ch (only p) w0 w' := by
    rw [← hw0] at r0
    have h := packed_any p G bs k _ r0
    rw [q1] at h
    exact h
  have Hk := hid q1'
  clear q1 q1'
  go_enter Tryz.func68, Tryz.ntmps68
  go_wp2_with (first | (refine wp_new 87 rfl rfl zeroRec ?_; refine wp_stop ?_))
  have hB0' := hB0
  rw [← hw0] at bz r0 x0 y0 v0 K0 hB0 ⊢
  rw [← hg0] at bz ⊢
  have hgw : w.heap.size ≤ g0 := by omega
  have hgp : g0 ≠ p := by omega
  clear hw0 hB0' hg0
  have hgl := bz.lt
  have hc0 := x0.cellAt 0 _ rfl
  refine wp_go ?_
  go_wp2_with (fail)
  refine (at_any p G bs k _ r0).mono ?_
  rintro e w1 ⟨rfl, rfl⟩
  go_wp2_with (fail)
  refine Hk.out.mono ?_
  rintro e w2 ⟨rfl, hr2, hC2⟩
  have x2 := x0.ch hC2 h5
  have hc2 := x2.cellAt 0 _ rfl
  have y2 := y0.ch hC2 h6
  have z2 := bz.ch hC2 hgp
  have v2 := v0.ch hC2 (fun b e e2 => h7 (e2 ▸ e.1))
  have K2 : KS w2 := K0.keep (hC2.block _ K0.lt (fun e => hpK e.symm))
  have hC2' : Ch (only p) w w2 := ((Ch.of_below hB0).weaken (fun _ _ e => e.elim)).trans hC2
  have q2' : Calls Tryz.prog 71 #[rp p, .int .i64 9223372036854775807] w2 fun e w' => ∃ v, e = .returned (.tuple #[v, .int .i64 0]) ∧ Rd w' (fun b => w2.heap.size ≤ b) v (bys t) ∧ RdR w' p G bs (k + psz n + (psz t.length + t.length)) ∧ Ch (only p) w2 w' := by
    have h := text_any p G bs (k + psz n) 9223372036854775807 w2 hr2 (by omega) (by omega) hbs
    rw [q2] at h
    unfold TextPost at h
    dsimp only at h
    rw [Hq2t.out] at h
    exact h
  have Hk2 := hid q2'
  clear q2 q2' Hk Hq2t r0 x0 y0 bz v0 K0 hB0 hr2 h1 h2 h3 h4
  go_wp2_with (fail)
  refine Hk2.out.mono ?_
  rintro e w3 ⟨vt, rfl, hvt, hr3, hC3⟩
  obtain ⟨At, ct, rfl⟩ := hvt.shape
  have x3 := x2.ch hC3 h5
  have hc3 := x3.cellAt 0 _ rfl
  have y3 := y2.ch hC3 h6
  have z3 := z2.ch hC3 hgp
  have v3 := v2.ch hC3 (fun b e e2 => h7 (e2 ▸ e.1))
  have K3 : KS w3 := K2.keep (hC3.block _ K2.lt (fun e => hpK e.symm))
  have hC3' := hC2'.trans hC3
  have hz2 := hC2'.size
  have hg2 : g0 < w2.heap.size := z2.lt
  have q3' : Calls Tryz.prog 72 #[rp p, .int .i64 8] w3 fun e w' => e = .returned (.tuple #[.int .u64 (fx : Int), .int .i64 0]) ∧ RdR w' p G bs (k + L) ∧ Ch (only p) w3 w' := by
    have h := fixed_any p G bs (k + psz n + (psz t.length + t.length)) 8 w3 hr3
    rw [hfx] at h
    have e : k + psz n + (psz t.length + t.length) + 8 = k + L := by omega
    rw [← e]
    exact h
  have Hk3 := hid q3'
  clear q3' hLs hpn hpt Hk2 hfx x2 y2 z2 v2 K2 hr3 hc2 hC2 hC2' hc0
  go_wp2_with (fail)
  refine Hk3.out.mono ?_
  rintro e w4 ⟨rfl, hr4, hC4⟩
  have x4 := x3.ch hC4 h5
  have hc4 := x4.cellAt 0 _ rfl
  have y4 := y3.ch hC4 h6
  have z4 := z3.ch hC4 hgp
  have v4 := v3.ch hC4 (fun b e e2 => h7 (e2 ▸ e.1))
  have K4 : KS w4 := K3.keep (hC4.block _ K3.lt (fun e => hpK e.symm))
  have hvt4 := (hvt.weak (F' := fun b => w2.heap.size ≤ b ∧ b < w3.heap.size) (fun b hb e => ⟨e, hb⟩)).ch hC4 (fun b e e2 => by have e2 : b = p := e2; have := hz2; omega)
  have hC4' := hC3'.trans hC4
  clear Hk3 x3 y3 z3 v3 K3 hc3 hvt hC3 hC4 hC3'
  go_wp2_with (fail)
  refine (at_any p G bs (k + L) _ hr4).mono ?_
  rintro e w5 ⟨rfl, rfl⟩
  obtain ⟨As, ms, cs, hsl, hrs⟩ := v4.cut (P := Tryz.prog) slB (k : Int) ((k : Int) + (L : Int)) (by omega) (by omega) (by omega)
  rw [show ((k : Int) + (L : Int)).toNat - (k : Int).toNat = L from by omega, show (k : Int).toNat = k from by omega, Hcut.out] at hrs
  have hgl4 := z4.lt
  have HY : Hid (∀ W, Ch (only g0) w4 W → W.cell? ⟨bx, 0, none⟩ = some (.slice Ab bs.length cb)) := hid fun W hc => (y4.ch hc (by intro e; have e : bx = g0 := e; omega)).cellAt 0 _ rfl
  have HKS : Hid (∀ W, Ch (only g0) w4 W → KS W) := hid fun W hc => K4.keep (hc.block _ K4.lt (fun e => by have e : (0 : Nat) = g0 := e; have := hK.lt; omega))
  have HVT : Hid (∀ W, Ch (only g0) w4 W → Rd W (fun b => w2.heap.size ≤ b ∧ b < w3.heap.size) (.slice At t.length ct) (bys t)) := hid fun W hc => hvt4.ch hc (fun b e e2 => by have e2 : b = g0 := e2; omega)
  have HRS : Hid (∀ W, Ch (only g0) w4 W → Rd W (fun b => F b ∧ b < w.heap.size) (.slice As ms cs) (bys (recF n t))) := hid fun W hc => hrs.ch hc (fun b e e2 => by have e2 : b = g0 := e2; omega)
  go_wp2_with (fail)
  -- R12
  refine wp_region_noPanic ?_
  refine wp_region_held_drew (S := Ch (only g0) w4) (by kernel_rfl) ((Ch.refl _ _).drew) (fun hHeld => ?_)
  refine wpAnyH_take (i := 0) (oi := ⟨some 39, _, _, _, _, none⟩) (v := ?_) rfl (by kernel_rfl) (by kernel_rfl) (by kernel_rfl) (fun _ _ _ h => h) (Or.inl ⟨by rfl, ?_⟩) (by assumption) ?_
  rotate_left
  · intro w hSw; go_simp; try with_reducible rfl
  try simp only [Act.put, List.setIfInBounds_toArray, List.set_cons_zero, List.set_cons_succ]
  refine wpAnyH_take (i := 1) (oi := ⟨some 40, _, _, _, _, none⟩) (v := ?_) rfl (by kernel_rfl) (by kernel_rfl) (by kernel_rfl) (fun _ _ _ h => h) (Or.inl ⟨by rfl, ?_⟩) (by assumption) ?_
  rotate_left
  · intro w hSw; go_simp; try with_reducible rfl
  try simp only [Act.put, List.setIfInBounds_toArray, List.set_cons_zero, List.set_cons_succ]
  refine wpAnyH_take (i := 2) (oi := ⟨some 41, _, _, _, _, none⟩) (v := ?_) rfl (by kernel_rfl) (by kernel_rfl) (by kernel_rfl) (fun _ _ _ h => h) (Or.inl ⟨by rfl, ?_⟩) (by assumption) ?_
  rotate_left
  · intro w hSw; go_simp; try with_reducible rfl
  try simp only [Act.put, List.setIfInBounds_toArray, List.set_cons_zero, List.set_cons_succ]
  refine wpAnyH_take (i := 3) (oi := ⟨some 42, _, _, _, _, none⟩) (v := ?_) rfl (by kernel_rfl) (by kernel_rfl) (by kernel_rfl) (fun _ _ _ h => h) (Or.inl ⟨by rfl, ?_⟩) (by assumption) ?_
  rotate_left
  · intro w hSw; go_simp; try with_reducible rfl
  try simp only [Act.put, List.setIfInBounds_toArray, List.set_cons_zero, List.set_cons_succ]
  refine wpAnyH_take (i := 4) (oi := ⟨some 43, _, _, _, _, none⟩) (v := ?_) rfl (by kernel_rfl) (by kernel_rfl) (by kernel_rfl) (fun _ _ _ h => h) (Or.inl ⟨by rfl, ?_⟩) (by assumption) ?_
  rotate_left
  · intro w hSw; have hcw := HY.out w hSw; go_simp; try with_reducible rfl
  try simp only [Act.put, List.setIfInBounds_toArray, List.set_cons_zero, List.set_cons_succ]
  refine wpAnyH_take (i := 5) (oi := ⟨some 44, _, _, _, _, none⟩) (v := ?_) rfl (by kernel_rfl) (by kernel_rfl) (by kernel_rfl) (fun _ _ _ h => h) (Or.inl ⟨by rfl, ?_⟩) (by assumption) ?_
  rotate_left
  · intro w hSw; go_simp; try with_reducible rfl
  try simp only [Act.put, List.setIfInBounds_toArray, List.set_cons_zero, List.set_cons_succ]
  refine wpAnyH_take (i := 6) (oi := ⟨some 45, _, _, _, _, none⟩) (v := ?_) rfl (by kernel_rfl) (by kernel_rfl) (by kernel_rfl) (fun _ _ _ h => h) (Or.inl ⟨by rfl, ?_⟩) (by assumption) ?_
  rotate_left
  · intro w hSw; go_simp; try with_reducible rfl
  try simp only [Act.put, List.setIfInBounds_toArray, List.set_cons_zero, List.set_cons_succ]
  refine wpAnyH_take (i := 7) (oi := ⟨some 46, _, _, _, _, none⟩) (v := ?_) rfl (by kernel_rfl) (by kernel_rfl) (by kernel_rfl) (fun _ _ _ h => h) (Or.inl ⟨by rfl, ?_⟩) (by assumption) ?_
  rotate_left
  · intro w hSw; go_simp; try with_reducible rfl
  try simp only [Act.put, List.setIfInBounds_toArray, List.set_cons_zero, List.set_cons_succ]
  refine wpAnyH_take (i := 8) (oi := ⟨some 47, _, _, _, _, none⟩) (v := ?_) rfl (by kernel_rfl) (by kernel_rfl) (by kernel_rfl) (fun _ _ _ h => h) (Or.inl ⟨by rfl, ?_⟩) (by assumption) ?_
  rotate_left
  · intro w hSw; go_simp; try with_reducible rfl
  try simp only [Act.put, List.setIfInBounds_toArray, List.set_cons_zero, List.set_cons_succ]
  refine wpAnyH_take (i := 9) (oi := ⟨some 48, _, _, _, _, none⟩) (v := ?_) rfl (by kernel_rfl) (by kernel_rfl) (by kernel_rfl) (fun _ _ _ h => h) (Or.inl ⟨by rfl, ?_⟩) (by assumption) ?_
  rotate_left
  · intro w hSw; go_simp; try with_reducible rfl
  try simp only [Act.put, List.setIfInBounds_toArray, List.set_cons_zero, List.set_cons_succ]
  refine wpAnyH_ready (rs := [10]) (by kernel_rfl) (by simp) ?_
  refine AllReadyH.cons (o := ⟨some 49, _, _, _, _, none⟩) rfl (fun K hK => ?_) AllReadyH.nil
  go_simp
  refine (bytesOf_e n t _ _ _ (HKS.out _ hHeld) hn (HVT.out _ hHeld) ht).mono ?_
  rintro e w6 ⟨v6, rfl, ho6, hB6⟩
  obtain ⟨A6, c6, rfl⟩ := own_shape ho6
  have hr6 : Rd w6 (fun _ => True) (.slice A6 (recF n t).length c6) (bys (recF n t)) := (Rd.of_own ho6).weak (fun _ _ _ => trivial)
  have hrs6 := (HRS.out _ hHeld).below hB6
  have hz6 := z4.drew.below hB6
  refine hK.out _ _ (hHeld.belowR hB6) (fun hHeld => ?_)
  clear hK K
  try simp only [Act.put, List.setIfInBounds_toArray, List.set_cons_zero, List.set_cons_succ]
  refine wpAnyH_ready (rs := [11]) (by kernel_rfl) (by simp) ?_
  refine AllReadyH.cons (o := ⟨some 50, _, _, _, _, none⟩) rfl (fun K hK => ?_) AllReadyH.nil
  go_simp
  refine (bytesEqual_e _ _ _ _ _ _ _ hrs6 hr6 rfl).mono ?_
  rintro e w7 ⟨rfl, hw7⟩
  subst hw7
  refine hK.out _ _ (hHeld) (fun hHeld => ?_)
  clear hK K
  try simp only [Act.put, List.setIfInBounds_toArray, List.set_cons_zero, List.set_cons_succ]
  refine wpAnyH_ready (rs := [12]) (by kernel_rfl) (by simp) ?_
  refine AllReadyH.cons (o := ⟨none, .store 87 (.tmp 2) (.tmp 42), _, _, _, none⟩) rfl (fun K hK => ?_) AllReadyH.nil
  refine step_st 87 (.tmp 2) (.tmp 42) (by rfl) (by rfl) (by rfl) (f := 0) (by rfl) (l := [.int .u64 (n : Int), .slice At t.length ct, .int .i64 ((k : Int) + (L : Int))]) (by rfl) hz6 (by simp [zRec]) sizeRec one_rec ?_
  intro w8 hb8 hG8
  refine hK.out _ _ (hHeld.grow hG8 (fun k hk => .inl (by injection hk with hk; exact hk.symm))) (fun hHeld => ?_)
  clear hK K
  try simp only [Act.put, List.setIfInBounds_toArray, List.set_cons_zero, List.set_cons_succ]
  refine wpAnyH_take (i := 13) (oi := ⟨some 3, _, _, _, _, none⟩) (v := ?_) rfl (by kernel_rfl) (by kernel_rfl) (by kernel_rfl) (fun _ _ _ h => h) (Or.inl ⟨by rfl, ?_⟩) (by assumption) ?_
  rotate_left
  · intro w hSw; go_simp; try with_reducible rfl
  try simp only [Act.put, List.setIfInBounds_toArray, List.set_cons_zero, List.set_cons_succ]
  refine wpAnyH_done (by kernel_rfl) ?_ _
  refine NoPanic.normal ?_
  -- R12 end
  have x8 := x4.ch hHeld (by intro e; have e : rx = g0 := e; omega)
  have y8 := y4.ch hHeld (by intro e; have e : bx = g0 := e; omega)
  have v8 := (v4.ch hHeld (fun b e e2 => by have e2 : b = g0 := e2; omega)).weak (F' := F) (fun _ _ e => e.1)
  have r8 : RdR w8 p G bs (k + L) := hr4.keep (hHeld.block p (by omega) (fun e => by have e : p = g0 := e; omega)) (fun b hb hf => hHeld.block b hb (fun e => by have e : b = g0 := e; have := h8 b hf; omega))
  have t8 := (HVT.out _ hHeld).weak (F' := fun b => w.heap.size ≤ b) (fun b _ e => by omega)
  have hC8 : Ch (only p) w w8 := hC4'.transN hHeld (fun y e => .inr (by have e : y = g0 := e; omega))
  go_wp2
  refine ret_cell1 rfl rfl rfl hb8.whole Tryz.underlying87 rfl sizeRec rfl ?_
  exact ⟨At, ct, by rw [show ((k + L : Nat) : Int) = (k : Int) + (L : Int) from by omega]; rfl, t8, ⟨_, x8, y8, v8, r8, h5, h6, h7, h8⟩, hC8⟩
end Go.Proofs.YtcechioeolokcaaGreatDoor
/- H3: layer 11: a segment's good part. -/
namespace Go.V
open Go.RowKit
theorem recs_split : ∀ (ts : List (List UInt8)) (f i : Nat), i ≤ ts.length → recsF f ts = recsF f (ts.take i) ++ recsF (f + i) (ts.drop i)
  | ts, f, 0, _ => by simp [recsF]
  | [], f, i + 1, h => by simp at h
  | t :: ts, f, i + 1, h => by
    rw [recsF, recs_split ts (f + 1) i (by simpa using h), List.take_succ_cons, List.drop_succ_cons, recsF, List.append_assoc, show f + 1 + i = f + (i + 1) from by omega]
/-- how many bytes the first i records have -/
def posF (f : Nat) (ts : List (List UInt8)) (i : Nat) : Nat := (recsF f (ts.take i)).length
theorem pos_zero (f : Nat) (ts : List (List UInt8)) : posF f ts 0 = 0 := rfl
theorem pos_all (f : Nat) (ts : List (List UInt8)) : posF f ts ts.length = (recsF f ts).length := by unfold posF; rw [List.take_length]
theorem pos_succ {f : Nat} {ts : List (List UInt8)} {i : Nat} {t : List UInt8} (h : ts[i]? = some t) : posF f ts (i + 1) = posF f ts i + (recF (f + i) t).length := by
  have hl := (List.getElem?_eq_some_iff.1 h).1
  unfold posF
  rw [List.take_add_one, h]
  show (recsF f (ts.take i ++ [t])).length = _
  rw [recs_snoc, List.length_append, List.length_take, Nat.min_eq_left (by omega)]
theorem pos_drop {f : Nat} {ts : List (List UInt8)} {i : Nat} {t : List UInt8} (h : ts[i]? = some t) : (recsF f ts).drop (posF f ts i) = recF (f + i) t ++ recsF (f + i + 1) (ts.drop (i + 1)) := by
  have hl := (List.getElem?_eq_some_iff.1 h).1
  rw [recs_split ts f i (by omega)]
  unfold posF
  rw [List.drop_left, List.drop_eq_getElem_cons hl, recsF]
  have : ts[i] = t := by
    rw [List.getElem?_eq_getElem hl] at h
    injection h
  rw [this]
theorem pos_le (f : Nat) (ts : List (List UInt8)) (i : Nat) (h : i ≤ ts.length) : posF f ts i ≤ (recsF f ts).length := by
  rw [recs_split ts f i h]
  unfold posF
  simp
/-- a row of texts of one's own, that lies beside what else may change (Z) -/
structure OT (w : World) (e : TypeId) (base : Nat) (Z : Nat → Prop) (av : Value) (l : List (List UInt8)) (us : List Value) : Prop where
  own : w.ownsRow base e 1 av l.length us
  x : TxX w (fun b => base ≤ b ∧ ¬ Z b ∧ av.ownBlock ≠ some b) l us
  z : ∀ b, av.ownBlock = some b → ¬ Z b
theorem OT.nil (w : World) (e : TypeId) (base : Nat) (Z : Nat → Prop) : OT w e base Z (.slice none 0 0) [] [] := ⟨World.ownsRow_nil _ _ _ _, TxX.nil _ _, fun b e => by cases e⟩
theorem OT.ch {w w' : World} {e : TypeId} {base : Nat} {Z G : Nat → Prop} {av : Value} {l : List (List UInt8)} {us : List Value} (h : OT w e base Z av l us) (hC : Ch G w w') (hG : ∀ b, G b → Z b ∨ b < base) : OT w' e base Z av l us :=
  ⟨own_keep10 h.own (fun k hk e => hC.block k hk (fun hg => (hG k hg).elim (h.z k e) (fun h2 => by have := (h.own.lt k e).1; omega))),
   h.x.keep (fun b hb hF => ⟨hF, hC.block b hb (fun hg => (hG b hg).elim hF.2.1 (fun h2 => by have := hF.1; omega))⟩), h.z⟩
theorem OT.push {w w' : World} {e : TypeId} {base : Nat} {Z : Nat → Prop} {av v' u : Value} {l : List (List UInt8)} {us : List Value} {t : List UInt8} (h : OT w e base Z av l us) (hu : Rd w (fun b => base ≤ b ∧ ¬ Z b ∧ av.ownBlock ≠ some b) u (bys t)) (hZ : ∀ b, Z b → b < w.heap.size)
    (ho : w'.ownsRow base e 1 v' (l.length + 1) (us ++ [u])) (hG : w.grownBy w' av.ownBlock) (hd : v'.ownBlock = av.ownBlock ∨ v'.ownBlock = some w.heap.size) : OT w' e base Z v' (l ++ [t]) (us ++ [u]) := by
  have hk : ∀ b, b < w.heap.size → base ≤ b ∧ ¬ Z b ∧ av.ownBlock ≠ some b → (base ≤ b ∧ ¬ Z b ∧ v'.ownBlock ≠ some b) ∧ w'.heap[b]? = w.heap[b]? := fun b hb h1 =>
    ⟨⟨h1.1, h1.2.1, fun e2 => hd.elim (fun hd => h1.2.2 (by rw [← hd]; exact e2)) (fun hd => by rw [hd] at e2; injection e2 with e2; omega)⟩, hG.block b hb (fun e2 => h1.2.2 e2.symm)⟩
  refine ⟨by rw [List.length_append]; exact ho, (h.x.keep hk).snoc (hu.keep hk), fun b e2 hz => ?_⟩
  rcases hd with hd | hd
  · exact h.z b (by rw [← hd]; exact e2) hz
  · rw [hd] at e2; injection e2 with e2; have := hZ b hz; omega
theorem OT.rd {w : World} {e : TypeId} {base : Nat} {Z : Nat → Prop} {av : Value} {l : List (List UInt8)} {us : List Value} (h : OT w e base Z av l us) : Rd w (fun b => base ≤ b) av (tx l) := tx_own h.own h.x (fun _ h => h.1)
section
variable {P : Program} {w : World} {ops : Array Oper} {o : Oper} {a : Act} {K : Act → World → Prop} {Q : Exit → Act → World → Prop} {E : Prop}
/-- '[]T{x}', in a region that draws its order -/
theorem step_bs1 {t e : TypeId} {z : Value} {by_ : Nat} (ht : SlT P t e z by_) (x : Operand) (hgd : o.guard = none) (ho : o.op = .buildSlice t 1 #[(0, x)]) {u : Value} (hx : a.eval x = u) (huc : u.cells = #[u])
    (h : ∀ g w', g = w.heap.size → Blk w' g e [u] → Below w.heap.size w w' → K (a.put o.dst (.slice (some ⟨g, 0, none⟩) 1 1)) w') : if Region.wanted o (yielded ops a.tmps) = true then Oper.wp P o a w K Q else E := by
  have hw : Region.wanted o (yielded ops a.tmps) = true := by simp [Region.wanted, hgd]
  rw [if_pos hw]
  have e1 : (Array.map (fun (x : Nat × Operand) => (x.1, a.eval x.2)) #[(0, x)]) = #[(0, u)] := by simp [hx]
  unfold Oper.wp execOp
  simp only [ho, e1, Sem.run_bind, Sem.run_pure, run_buildSlice1 (P := P) (w := w) t e z u by_ ht huc, Result.andThen_ok]
  exact h _ _ rfl (Blk.new' w e [u]) ((Below.refl _ _).alloc (Nat.le_refl _) _)
/-- append, in a region that draws its order; where the row lies then is told -/
theorem step_appD (s x : Operand) {t e : TypeId} {z : Value} {by_ : Nat} (ht : SlT P t e z by_) (hgd : o.guard = none)
    (ho : o.op = .call { callee := .builtin .append, args := #[s, x], argTypes := #[t, t] })
    {base : Nat} {v : Value} {n : Nat} {xs : List Value} (hs : a.eval s = v) (hown : w.ownsRow base e 1 v n xs)
    {A : Option Addr} {m c : Nat} {news : List Value} (hx : a.eval x = .slice A m c) (hsrc : Src w A m news) (h1 : ∀ u ∈ news, u.oneCell' = true)
    (h63 : n + m ≤ maxLen) (hb : (n + m) * by_ ≤ 140737488355328) (hbase : base ≤ w.heap.size)
    (h : ∀ v' w', w'.ownsRow base e 1 v' (n + m) (xs ++ news) → w.grownBy w' v.ownBlock → (v'.ownBlock = v.ownBlock ∨ v'.ownBlock = some w.heap.size) → K (a.put o.dst v') w') :
    if Region.wanted o (yielded ops a.tmps) = true then Oper.wp P o a w K Q else E := by
  have hw : Region.wanted o (yielded ops a.tmps) = true := by simp [Region.wanted, hgd]
  rw [if_pos hw]
  obtain ⟨v', w', hr, h2, h3, h4⟩ := run_append_src (P := P) base t o.type e z by_ ht v n xs hown A m c news hsrc h1 h63 hb hbase
  unfold Oper.wp execOp
  simp only [ho, resolve, invoke, builtin, Sem.run_bind, Sem.run_pure, Result.andThen_ok, List.map_toArray, List.map_cons, List.map_nil, hs, hx, hr]
  exact h v' w' h2 h3 h4
end
/-- a log's cells -/
def lgL (dv : Value) (pre num : ByteArray) (sz next : Nat) : List Value := [dv, .string pre, .string num, .int .i64 (sz : Int), .int .u64 (next : Int)]
end Go.V
namespace Go.Proofs.YtcechioeolokcaaGreatDoor
open Go.RowKit Go.V
theorem slBBH : SlT Tryz.prog 28 33 (.slice none 0 0) 24 := .of Tryz.underlying28 (by kernel_rfl) rfl
theorem one_zrec : ∀ v ∈ zRec, v.oneCell' = true := by decide
/-- the i-th record is read, or none is left -/
theorem read_at (rx bx p : Nat) (G F : Nat → Prop) (f : Nat) (ts : List (List UInt8)) (i : Nat) (w : World) (hK : KS w) (h : RG w rx bx p G F (recsF f ts) (posF f ts i)) (hi : i ≤ ts.length) (hN : f + ts.length ≤ 1000000) (hts : ∀ t ∈ ts, t.length ≤ 1000000) (hbs : (recsF f ts).length ≤ 35184372088832) (hpK : p ≠ (0 : Nat)) :
    Calls Tryz.prog 68 #[.pointer (some ⟨rx, 0, none⟩), .pointer (some ⟨bx, 0, none⟩)] w fun e w' => ∃ rl, e = .returned (.tuple #[.agg rl.toArray, .bool (decide (i < ts.length))]) ∧ rl.length = 3 ∧ (∀ v ∈ rl, v.oneCell' = true) ∧
      (∀ t, ts[i]? = some t → ∃ A c, rl = [.int .u64 ((f + i : Nat) : Int), .slice A t.length c, .int .i64 ((posF f ts (i + 1) : Nat) : Int)] ∧ Rd w' (fun b => w.heap.size ≤ b) (.slice A t.length c) (bys t) ∧ RG w' rx bx p G F (recsF f ts) (posF f ts (i + 1))) ∧ Ch (only p) w w' := by
  by_cases hlt : i < ts.length
  · obtain ⟨t, ht⟩ : ∃ t, ts[i]? = some t := ⟨_, List.getElem?_eq_getElem hlt⟩
    have hm : t ∈ ts := List.mem_of_getElem? ht
    refine (read_rec rx bx p (posF f ts i) (f + i) G F (recsF f ts) t _ w hK h (pos_drop ht) (by omega) (hts t hm) hbs (by omega) hpK).mono ?_
    rintro e w1 ⟨A, c, rfl, hr, hR, hC⟩
    rw [← pos_succ ht] at hR ⊢
    refine ⟨_, by rw [decide_eq_true hlt], rfl, one_rec, fun t' ht' => ?_, hC⟩
    rw [ht] at ht'
    injection ht' with ht'
    subst ht'
    exact ⟨A, c, rfl, hr, hR⟩
  · have hiN : i = ts.length := by omega
    subst hiN
    rw [pos_all] at h
    refine (read_end rx bx p G F (recsF f ts) w h).mono ?_
    rintro e w1 ⟨rfl, hC⟩
    refine ⟨zRec, by rw [decide_eq_false hlt], rfl, one_zrec, fun t' ht' => ?_, hC⟩
    rw [List.getElem?_eq_none (Nat.le_refl _)] at ht'
    cases ht'
set_option maxRecDepth 100000 in
set_option maxHeartbeats 4000000 in
theorem good_e (x : Nat) (dv : Value) (pre num : ByteArray) (sz nx f : Nat) (ts : List (List UInt8)) (no0 : Bool) (vb : Value) (F : Nat → Prop) (w : World) (hK : KS w) (hx : Blk w x 57 (lgL dv pre num sz nx)) (hb : Rd w F vb (bys (recsF f ts))) (hF : ∀ b, F b → b < w.heap.size ∧ b ≠ x)
    (hst : ts = [] ∨ nx = f ∨ (no0 = true ∧ 1 ≤ f)) (_hnx : nx ≤ 1000000) (hN : f + ts.length ≤ 1000000) (hts : ∀ t ∈ ts, t.length ≤ 1000000) (hbs : (recsF f ts).length ≤ 35184372088832) (hxK : x ≠ (0 : Nat)) :
    Calls Tryz.prog 32 #[.pointer (some ⟨x, 0, none⟩), vb, .bool no0] w fun e w' => ∃ vt, e = .returned (.tuple #[vt, .int .i64 ((recsF f ts).length : Int)]) ∧ Rd w' (fun b => w.heap.size ≤ b) vt (tx ts) ∧ Blk w' x 57 (lgL dv pre num sz (if ts = [] then nx else f + ts.length)) ∧ Ch (only x) w w' := by
  obtain ⟨Ab, cb, rfl⟩ := hb.shape
  have hxl := hx.lt
  have hKl := hK.lt
  obtain ⟨B, hB⟩ : ∃ B, B = w.heap.size := ⟨_, rfl⟩
  obtain ⟨nz, hnz⟩ : ∃ nz, nz = if ts = [] then nx else f + ts.length := ⟨_, rfl⟩
  rw [← hnz]
  have Hnz := hid hnz
  clear hnz
  go_enter Tryz.func32, Tryz.ntmps32
  go_wp2_with (fail)
  refine (reading_e _ (recsF f ts) F _ hb hbs (fun b e => (hF b e).1)).mono ?_
  rintro e w1 ⟨rx, bx, p, G, rfl, hR1, hG1, hrx, hbx, hp, hB1⟩
  rw [← pos_zero f ts] at hR1
  have x1 := hx.below hB1
  have hw1 := hB1.size
  have K1 := hK.below hB1
  go_wp2_with (fail)
  refine (read_at rx bx p G F f ts 0 _ K1 hR1 (Nat.zero_le _) hN hts hbs (by omega)).mono ?_
  rintro e w2 ⟨rl, rfl, hl3, hl1, hrl, hC2⟩
  have x2 := x1.ch hC2 (by intro e; have e : x = p := e; omega)
  have hw2 := hC2.size
  have hp1 : p < w1.heap.size := by obtain ⟨_, _, _, _, ⟨_, h, _⟩, _⟩ := hR1; exact lt_of_block h
  have hC2' : Ch (only x) w w2 := ((Ch.of_below hB1).weaken (fun _ _ e => e.elim)).transN hC2 (fun y e => .inr (by have e : y = p := e; omega))
  clear hB1 x1 K1 hC2 hx hb
  go_wp2_with (refine wp_newst 87 9 (.tmp 16) rfl rfl rfl rfl rfl rfl zeroRec (l := rl) rfl (by rw [hl3]; rfl) (by rw [hl3]; exact sizeRec) hl1 (by simp) ?_; intro w3 hq3 hB3 hs3; refine wp_stop ?_)
  obtain ⟨g9, hg9⟩ : ∃ g, g = w2.heap.size := ⟨_, rfl⟩
  rw [← hg9] at hq3 hs3 ⊢
  have x3 := x2.below hB3
  have hC3 := hC2'.belowR hB3
  have hR1x : rx < w1.heap.size ∧ bx < w1.heap.size ∧ ∀ b, G b → b < p := by obtain ⟨_, h1, h2, _, _, _, _, _, h⟩ := hR1; exact ⟨h1.lt, h2.lt, h⟩
  obtain ⟨Z, hZ⟩ : ∃ Z : Nat → Prop, Z = fun b => b = g9 ∨ b = rx ∨ b = bx ∨ b = p ∨ G b := ⟨_, rfl⟩
  have hZl : ∀ b, Z b → b < w3.heap.size := by
    intro b hb
    rw [hZ] at hb
    have := hB3.size
    rcases hb with h | h | h | h | h
    · omega
    · omega
    · omega
    · omega
    · have := hR1x.2.2 b h; omega
  have HZ := hid hZ
  have hO3 : OT w3 33 B Z (.slice none 0 0) [] [] := OT.nil _ _ _ _
  have hrl3 : Hid (∀ t, ts[0]? = some t → ∃ A c, rl = [.int .u64 ((f + 0 : Nat) : Int), .slice A t.length c, .int .i64 ((posF f ts (0 + 1) : Nat) : Int)] ∧ Rd w3 (fun b => B ≤ b ∧ ¬ Z b ∧ (Value.slice none 0 0).ownBlock ≠ some b) (.slice A t.length c) (bys t) ∧ RG w3 rx bx p G F (recsF f ts) (posF f ts (0 + 1))) := hid fun t ht => by
    obtain ⟨A, c, h1, h2, h3⟩ := hrl t ht
    refine ⟨A, c, h1, ((h2.weak (F' := fun b => w1.heap.size ≤ b ∧ b < w2.heap.size) (fun b hb e => ⟨e, hb⟩)).below hB3).weak (fun b _ e => ⟨by omega, fun hz => ?_, fun e2 => by cases e2⟩), h3.keep (fun b hb _ => hB3.block b hb)⟩
    rw [hZ] at hz
    have hGp := hR1x.2.2
    rcases hz with h | h | h | h | h
    · omega
    · omega
    · omega
    · omega
    · have := hGp b h; omega
  have hgx : ∀ b, Z b → B ≤ b := by
    intro b hb
    rw [hZ] at hb
    rcases hb with h | h | h | h | h
    · omega
    · omega
    · omega
    · omega
    · have := hG1 b h; omega
  have hZg : Z g9 := by rw [hZ]; exact .inl rfl
  have hZp : Z p := by rw [hZ]; exact .inr (.inr (.inr (.inl rfl)))
  have hZr : ∀ b, b = rx ∨ b = bx ∨ b = p ∨ G b → Z b := fun b h => by rw [hZ]; exact .inr h
  have hg9p : g9 ≠ p ∧ g9 ≠ rx ∧ g9 ≠ bx ∧ ¬ G g9 := ⟨by omega, by omega, by omega, fun h => by have := hR1x.2.2 _ h; omega⟩
  have hpB : B ≤ p := by omega
  have hgB : B ≤ g9 := by omega
  have hrxx : rx ≠ x ∧ bx ≠ x ∧ p ≠ x ∧ ¬ G x := ⟨by omega, by omega, by omega, fun h => by have := hG1 _ h; omega⟩
  have hs3B : B ≤ w3.heap.size := by have := hB3.size; omega
  clear hg9 hZ hR1x hrl hR1 hB3 x2 hC2' hw1 hw2 hp1 hG1 hrx hbx hp hl1 hl3
  refine wp_go ?_
  go_wp2
  go_loopw [2, 6, 7, 10] (fun nv av sv ov wr => ∃ (i : Nat) (tk : List (List UInt8)) (us rl : List Value) (nb : Bool) (nn : Nat), i ≤ ts.length ∧ nv = .bool nb ∧ Hid (nb = if i = 0 then no0 else false) ∧ Hid (nn = if i = 0 then nx else f + i) ∧ sv = .int .i64 ((posF f ts i : Nat) : Int) ∧ ov = .bool (decide (i < ts.length)) ∧ Hid (tk = ts.take i) ∧ OT wr 33 B Z av tk us ∧ Blk wr g9 87 rl ∧
    Hid (∀ t, ts[i]? = some t → ∃ A c, rl = [.int .u64 ((f + i : Nat) : Int), .slice A t.length c, .int .i64 ((posF f ts (i + 1) : Nat) : Int)] ∧ Rd wr (fun b => B ≤ b ∧ ¬ Z b ∧ av.ownBlock ≠ some b) (.slice A t.length c) (bys t) ∧ RG wr rx bx p G F (recsF f ts) (posF f ts (i + 1))) ∧
    Blk wr x 57 (lgL dv pre num sz nn) ∧ Ch (only x) w wr ∧ w3.heap.size ≤ wr.heap.size) (fun _ _ sv _ _ => (recsF f ts).length - (intOf sv).toNat)
  case atStart => exact ⟨0, [], [], rl, no0, nx, Nat.zero_le _, rfl, by show _ = _; rfl, by show _ = _; rfl, rfl, rfl, by show _ = _; rfl, hO3, hq3, hrl3, x3, hC3, Nat.le_refl _⟩
  case round =>
    clear hO3 hq3 hrl3 x3 hC3
    obtain ⟨i, tk, us, rr, nb, nn, hi, rfl, Hnb, Hnn, rfl, rfl, Htk, hO, hq, hrl, hx, hC, hws⟩ := hrel
    obtain ⟨Aa, ca, rfl⟩ := own_shape8 hO.own
    by_cases hlt : i < ts.length
    · obtain ⟨t, ht⟩ : ∃ t, ts[i]? = some t := ⟨_, List.getElem?_eq_getElem hlt⟩
      rw [decide_eq_true hlt]
      obtain ⟨A, c, hrl', hrt, hRG⟩ := hrl.out t ht
      obtain ⟨m, hm⟩ : ∃ m, m = f + i := ⟨_, rfl⟩
      rw [← hm] at hrl'
      subst hrl'
      have q0 := hq.cellAt 0 _ rfl
      have q1 := hq.cellAt 1 _ rfl
      have q2 := hq.cellAt 2 _ rfl
      have x4 := hx.cellAt 4 _ rfl
      have Hm := hid hm
      have hm1 : m ≤ 1000000 := by omega
      have Ht := hid ht
      clear hm ht hrl
      go_upto_region 3 with (fail)
      go_cut [35] from 18 to 35 (fun cv wx => cv = .bool true ∧ ∃ k, wx = wr.drewN k)
      case first =>
        by_cases he : m = nn
        · have hE : ((m : Int) == (nn : Int)) = true := by rw [beq_iff_eq]; omega
          subst he
          go_quiet (fail)
          go_wp2
          go_meet
          exact ⟨rfl, _, rfl⟩
        · have hE : ((m : Int) == (nn : Int)) = false := by rw [beq_eq_false_iff_ne]; omega
          have hnb : nb = true := by
            rw [Hnb.out]
            have hnn := Hnn.out
            have hmm := Hm.out
            by_cases h0 : i = 0
            · rw [if_pos h0] at hnn ⊢
              rcases hst with h | h | h
              · rw [h] at hlt; exact absurd hlt (Nat.not_lt_zero _)
              · exact absurd (by omega) he
              · exact h.1
            · rw [if_neg h0] at hnn
              exact absurd (by omega) he
          have hm0 : 1 ≤ m := by
            have hnn := Hnn.out
            have hmm := Hm.out
            by_cases h0 : i = 0
            · rw [if_pos h0] at hnn
              rcases hst with h | h | h
              · rw [h] at hlt; exact absurd hlt (Nat.not_lt_zero _)
              · exact absurd (by omega) he
              · omega
            · omega
          subst hnb
          go_quiet ((exact qz fun W => (mayBegin_e m W hm0 (by omega)).mono fun _ _ h => ⟨h.1, h.2.symm⟩))
          go_wp2
          go_meet
          exact ⟨rfl, _, rfl⟩
      case rest =>
        obtain ⟨rfl, kq, rfl⟩ := hcut
        have hib : tk.length ≤ 1000000 := by rw [Htk.out, List.length_take]; omega
        have hx := hx.drewN kq
        have hq := hq.drewN kq
        have hC := hC.drewN kq
        have hO := hO.ch (G := nob) ((Ch.refl _ _).drewN kq) (fun _ e => e.elim)
        have hrt := hrt.drewN kq
        have hRG := hRG.keep (w' := wr.drewN kq) (fun _ _ _ => rfl)
        have hws : w3.heap.size ≤ (wr.drewN kq).heap.size := hws
        obtain ⟨wq, hwq⟩ : ∃ wq, wq = wr.drewN kq := ⟨_, rfl⟩
        rw [← hwq] at hx hq hC hO hrt hRG hws ⊢
        clear hwq q0 q1 q2 x4
        have HQ1 : Hid (∀ W, Ch (fun b => (Value.slice Aa tk.length ca).ownBlock = some b) wq W → W.cell? ⟨g9, 1, none⟩ = some (.slice A t.length c)) := hid fun W hc => (hq.ch hc (fun e => hO.z g9 e hZg)).cellAt 1 _ rfl
        have HQ2 : Hid (∀ W, Ch (fun b => (Value.slice Aa tk.length ca).ownBlock = some b) wq W → W.cell? ⟨g9, 2, none⟩ = some (.int .i64 ((posF f ts (i + 1) : Nat) : Int))) := hid fun W hc => (hq.ch hc (fun e => hO.z g9 e hZg)).cellAt 2 _ rfl
        go_upto_region 4 with (fail)
        -- R4
        refine wp_region_noPanic ?_
        refine wp_region_held_drew (S := Ch (fun b => (Value.slice Aa tk.length ca).ownBlock = some b) wq) (by kernel_rfl) ((Ch.refl _ _).drew) (fun hHeld => ?_)
        refine wpAnyH_take (i := 0) (oi := ⟨some 36, _, _, _, _, none⟩) (v := ?_) rfl (by kernel_rfl) (by kernel_rfl) (by kernel_rfl) (fun _ _ _ h => h) (Or.inl ⟨by rfl, ?_⟩) (by assumption) ?_
        rotate_left
        · intro w hSw; go_simp; try with_reducible rfl
        try simp only [Act.put, List.setIfInBounds_toArray, List.set_cons_zero, List.set_cons_succ]
        refine wpAnyH_take (i := 1) (oi := ⟨some 37, _, _, _, _, none⟩) (v := ?_) rfl (by kernel_rfl) (by kernel_rfl) (by kernel_rfl) (fun _ _ _ h => h) (Or.inl ⟨by rfl, ?_⟩) (by assumption) ?_
        rotate_left
        · intro w hSw; go_simp; try with_reducible rfl
        try simp only [Act.put, List.setIfInBounds_toArray, List.set_cons_zero, List.set_cons_succ]
        refine wpAnyH_take (i := 2) (oi := ⟨some 38, _, _, _, _, none⟩) (v := ?_) rfl (by kernel_rfl) (by kernel_rfl) (by kernel_rfl) (fun _ _ _ h => h) (Or.inl ⟨by rfl, ?_⟩) (by assumption) ?_
        rotate_left
        · intro w hSw; have hcw := HQ1.out w hSw; go_simp; try with_reducible rfl
        try simp only [Act.put, List.setIfInBounds_toArray, List.set_cons_zero, List.set_cons_succ]
        refine wpAnyH_take (i := 5) (oi := ⟨some 41, _, _, _, _, none⟩) (v := ?_) rfl (by kernel_rfl) (by kernel_rfl) (by kernel_rfl) (fun _ _ _ h => h) (Or.inl ⟨by rfl, ?_⟩) (by assumption) ?_
        rotate_left
        · intro w hSw; go_simp; try with_reducible rfl
        try simp only [Act.put, List.setIfInBounds_toArray, List.set_cons_zero, List.set_cons_succ]
        refine wpAnyH_take (i := 6) (oi := ⟨some 42, _, _, _, _, none⟩) (v := ?_) rfl (by kernel_rfl) (by kernel_rfl) (by kernel_rfl) (fun _ _ _ h => h) (Or.inl ⟨by rfl, ?_⟩) (by assumption) ?_
        rotate_left
        · intro w hSw; have hcw := HQ2.out w hSw; go_simp; try with_reducible rfl
        try simp only [Act.put, List.setIfInBounds_toArray, List.set_cons_zero, List.set_cons_succ]
        refine wpAnyH_ready (rs := [3]) (by kernel_rfl) (by simp) ?_
        refine AllReadyH.cons (o := ⟨some 39, .buildSlice 28 1 _, _, _, _, none⟩) rfl (fun K hK => ?_) AllReadyH.nil
        refine step_bs1 slBBH (.tmp 38) (by rfl) (by rfl) (u := .slice A t.length c) (by rfl) rfl ?_
        rintro gb w6 hgb hb6 hB6
        have hO6 := hO.ch (G := nob) ((Ch.refl _ _).drew.belowR hB6) (fun _ e => e.elim)
        have hrt6 := (hrt.drew).below hB6
        have hz6 : wq.heap.size ≤ w6.heap.size := hB6.size
        refine hK.out _ _ (hHeld.belowR hB6) (fun hHeld => ?_)
        clear hK K
        try simp only [Act.put, List.setIfInBounds_toArray, List.set_cons_zero, List.set_cons_succ]
        refine wpAnyH_ready (rs := [4]) (by kernel_rfl) (by simp) ?_
        refine AllReadyH.cons (o := ⟨some 40, .call _, _, _, _, none⟩) rfl (fun K hK => ?_) AllReadyH.nil
        refine step_appD (.tmp 36) (.tmp 39) slBBH (by rfl) (by rfl) (by rfl) hO6.own (by rfl) (m := 1) (news := [.slice A t.length c]) ⟨rfl, fun j u hj => ⟨gb, 0, rfl, by cases j with | zero => injection hj with hj; subst hj; exact hb6.cellAt 0 _ rfl | succ j => simp at hj⟩⟩ (by simp [Value.oneCell']) (by simp only [maxLen]; omega) (by omega) (by omega) ?_
        rintro v7 w7 ho7 hG7 hd7
        refine hK.out _ _ (hHeld.grow hG7 (fun k hk => .inl hk)) (fun hHeld => ?_)
        clear hK K
        try simp only [Act.put, List.setIfInBounds_toArray, List.set_cons_zero, List.set_cons_succ]
        refine wpAnyH_take (i := 7) (oi := ⟨some 6, _, _, _, _, none⟩) (v := ?_) rfl (by kernel_rfl) (by kernel_rfl) (by kernel_rfl) (fun _ _ _ h => h) (Or.inl ⟨by rfl, ?_⟩) (by assumption) ?_
        rotate_left
        · intro w hSw; go_simp; try with_reducible rfl
        try simp only [Act.put, List.setIfInBounds_toArray, List.set_cons_zero, List.set_cons_succ]
        refine wpAnyH_take (i := 8) (oi := ⟨some 7, _, _, _, _, none⟩) (v := ?_) rfl (by kernel_rfl) (by kernel_rfl) (by kernel_rfl) (fun _ _ _ h => h) (Or.inl ⟨by rfl, ?_⟩) (by assumption) ?_
        rotate_left
        · intro w hSw; go_simp; try with_reducible rfl
        try simp only [Act.put, List.setIfInBounds_toArray, List.set_cons_zero, List.set_cons_succ]
        refine wpAnyH_done (by kernel_rfl) ?_ _
        refine NoPanic.normal ?_
        -- R4 end
        have hO7 := hO6.push hrt6 (fun b hb => by have := hZl b hb; omega) ho7 hG7 hd7
        have Htk7 : Hid (tk ++ [t] = ts.take (i + 1)) := by show _ = _; rw [List.take_add_one, Ht.out, Htk.out]; rfl
        obtain ⟨tk7, htk7⟩ : ∃ tk7, tk7 = tk ++ [t] := ⟨_, rfl⟩
        rw [← htk7] at hO7 Htk7
        have hq7 := hq.ch hHeld (fun e => hO.z g9 e hZg)
        have hx7 := hx.ch hHeld (fun e => by have := (hO.own.lt x e).1; omega)
        have hRG7 := hRG.keep (w' := w7) (fun b hb h => hHeld.block b hb (fun e => by
          rcases h with h | h | h | h | h
          · exact hO.z b e (hZr b (.inl h))
          · exact hO.z b e (hZr b (.inr (.inl h)))
          · exact hO.z b e (hZr b (.inr (.inr (.inl h))))
          · exact hO.z b e (hZr b (.inr (.inr (.inr h))))
          · have := (hO.own.lt b e).1; have := (hF b h).1; omega))
        have hC7 : Ch (only x) w w7 := hC.transN hHeld (fun y e => .inr (by have := (hO.own.lt y e).1; omega))
        have hs7 := hHeld.size
        have hws7 : w3.heap.size ≤ w7.heap.size := by omega
        have q70 := hq7.cellAt 0 _ rfl
        have x74 := hx7.cellAt 4 _ rfl
        clear htk7 hO6 hrt6 hb6 hB6 hz6 ho7 hG7 hd7 HQ1 HQ2 hHeld hrt hRG hC hO hx hq hws hs7
        obtain ⟨A7, c7, rfl⟩ := own_shape8 hO7.own
        have hwm : IntKind.u64.wrap ((m : Int) + 1) = (m : Int) + 1 := IntWalk.u64_in _ (by omega)
        go_wp2_with (first | (refine wp_st1 32 (.tmp 48) (.tmp 46) rfl rfl rfl (b := x) (f := 4) rfl (v := .int .u64 ((m : Int) + 1)) rfl hx7 (by simp [lgL]) (by kernel_rfl) rfl rfl ?_; intro w8 hx8 hG8; refine wp_stop ?_))
        have hset : (lgL dv pre num sz nn).set 4 (.int .u64 ((m : Int) + 1)) = lgL dv pre num sz (m + 1) := by
          show [dv, .string pre, .string num, .int .i64 (sz : Int), .int .u64 ((m : Int) + 1)] = [dv, .string pre, .string num, .int .i64 (sz : Int), .int .u64 ((m + 1 : Nat) : Int)]
          rw [show ((m + 1 : Nat) : Int) = (m : Int) + 1 from by omega]
        rw [hset] at hx8
        have hC8 : Ch (only x) w w8 := hC7.grow hG8 (fun k hk => .inl (by injection hk with hk; exact hk.symm))
        have hcx : Ch (only x) w7 w8 := (Ch.refl _ _).grow hG8 (fun k hk => .inl (by injection hk with hk; exact hk.symm))
        have hO8 := hO7.ch hcx (fun b e => .inr (by have e : b = x := e; omega))
        have hq8 := hq7.ch hcx (fun e => by have e : g9 = x := e; omega)
        have hRG8 := hRG7.keep (w' := w8) (fun b hb h => hcx.block b hb (fun e => by
          have e : b = x := e
          rcases h with h | h | h | h | h
          · omega
          · omega
          · omega
          · exact hrxx.2.2.2 (e ▸ h)
          · exact (hF b h).2 e))
        have K8 := hK.keep (hC8.block _ hKl (fun e => hxK e.symm))
        have hs8 := hcx.size
        have hpl8 : p < w8.heap.size := by have := hZl p hZp; omega
        have hgl8 := hq8.lt
        clear hset hG8 hcx hO7 hq7 hRG7 hx7 hC7 q70 x74
        refine wp_go ?_
        go_wp2_with (fail)
        refine (read_at rx bx p G F f ts (i + 1) _ K8 hRG8 (by omega) hN hts hbs (by omega)).mono ?_
        rintro e w9 ⟨rn, rfl, hl3, hl1, hrn, hC9⟩
        have Hob : Hid (∀ b, (Value.slice A7 tk7.length c7).ownBlock = some b → b < w8.heap.size) := hid fun b e => (hO8.own.lt b e).2
        have hO9 := hO8.ch hC9 (fun b e => .inl (by have e : b = p := e; rw [e]; exact hZp))
        have hq9 := hq8.ch hC9 hg9p.1
        have hx9 := hx8.ch hC9 (fun e => hrxx.2.2.1 e.symm)
        have hC9' : Ch (only x) w w9 := hC8.transN hC9 (fun y e => .inr (by have e : y = p := e; omega))
        have hs9 := hC9.size
        have Hrn := hid hrn
        clear hrn hO8 hq8 hx8 hC8 hRG8 K8 hC9
        go_wp2_with (first | (refine wp_st 87 (.tmp 9) (.tmp 52) rfl rfl rfl (f := 0) rfl (l := rn) rfl hq9 (by rw [hl3]; exact Nat.le_refl _) (by rw [hl3]; exact sizeRec) hl1 ?_; intro w10 hb10 hG10; refine wp_stop ?_))
        rw [List.take_zero, List.nil_append, List.drop_of_length_le (by simp [hl3]), List.append_nil] at hb10
        have hcg : Ch (only g9) w9 w10 := (Ch.refl _ _).grow hG10 (fun k hk => .inl (by injection hk with hk; exact hk.symm))
        have hO10 := hO9.ch hcg (fun b e => .inl (by have e : b = g9 := e; rw [e]; exact hZg))
        have hx10 := hx9.ch hcg (fun e => by have e : x = g9 := e; omega)
        have hC10 : Ch (only x) w w10 := hC9'.transN hcg (fun y e => .inr (by have e : y = g9 := e; omega))
        have hs10 := hcg.size
        have hoB : ∀ b, (Value.slice A7 tk7.length c7).ownBlock = some b → b < w9.heap.size := fun b e => (hO9.own.lt b e).2
        have hRI : Hid (∀ t, ts[i + 1]? = some t → ∃ A c, rn = [.int .u64 ((f + (i + 1) : Nat) : Int), .slice A t.length c, .int .i64 ((posF f ts (i + 1 + 1) : Nat) : Int)] ∧ Rd w10 (fun b => B ≤ b ∧ ¬ Z b ∧ (Value.slice A7 tk7.length c7).ownBlock ≠ some b) (.slice A t.length c) (bys t) ∧ RG w10 rx bx p G F (recsF f ts) (posF f ts (i + 1 + 1))) := hid fun t' ht' => by
          obtain ⟨A', c', h1, h2, h3⟩ := Hrn.out t' ht'
          refine ⟨A', c', h1, ?_, h3.keep (fun b hb h => hcg.block b hb (fun e => by
            have e : b = g9 := e
            rcases h with h | h | h | h | h
            · exact hg9p.2.1 (e ▸ h)
            · exact hg9p.2.2.1 (e ▸ h)
            · exact hg9p.1 (e ▸ h)
            · exact hg9p.2.2.2 (e ▸ h)
            · have := (hF b h).1; omega))⟩
          refine (h2.weak (F' := fun b => w8.heap.size ≤ b ∧ b ≠ g9 ∧ (Value.slice A7 tk7.length c7).ownBlock ≠ some b) (fun b _ e => ⟨e, by omega, fun e2 => by have := Hob.out b e2; omega⟩)).ch hcg (fun b e e2 => e.2.1 e2) |>.weak (fun b _ e => ⟨by omega, fun hz => by have := hZl b hz; omega, e.2.2⟩)
        have hps : posF f ts i < posF f ts (i + 1) := by rw [pos_succ Ht.out, len_rec]; omega
        have hpl := pos_le f ts (i + 1) (by omega)
        have HmE : Hid (m + 1 = if i + 1 = 0 then nx else f + (i + 1)) := by show _ = _; rw [if_neg (by omega), Hm.out]; omega
        clear hO9 hq9 hx9 hC9' hG10 hcg Hrn hl1 hl3 hoB
        refine wp_go ?_
        go_wp2
        go_roundw
        case rel => exact ⟨i + 1, tk7, _, rn, false, m + 1, by omega, rfl, by show _ = _; rw [if_neg (by omega)], HmE, rfl, rfl, Htk7, hO10, hb10, hRI, hx10, hC10, by omega⟩
        case measure => simp [intOf]; omega
    · have hiN : i = ts.length := by omega
      rw [decide_eq_false hlt]
      have Htk' : Hid (tk = ts) := by show _ = _; rw [Htk.out, hiN, List.take_length]
      have Hnn' : Hid (nn = nz) := by
        show _ = _
        rw [Hnn.out, Hnz.out, hiN]
        by_cases h0 : ts = []
        · rw [if_pos h0, if_pos (by rw [h0]; rfl)]
        · rw [if_neg h0, if_neg (fun h => h0 (List.eq_nil_of_length_eq_zero h))]
      have Hpos : Hid (posF f ts i = (recsF f ts).length) := by show _ = _; rw [hiN, pos_all]
      clear hiN hlt hrl hst
      go_upto_region 3 with (fail)
      go_quiet (fail)
      go_wp2
      go_ret2
      refine ⟨_, (by rw [Hpos.out]; try rfl), ?_, ?_, hC.drewN _⟩
      · have hO' := (hO.ch (G := nob) ((Ch.refl _ _).drewN nq) (fun _ e => e.elim)).rd
        rw [← hB]
        rw [Htk'.out] at hO' ⊢
        exact hO'
      · rw [← Hnn'.out]
        exact hx.drewN _
end Go.Proofs.YtcechioeolokcaaGreatDoor
/- A function of the library at this translation, by the shelf's one contract. -/
namespace Go.Proofs
open Go.Shelf
def Tryz.laysSlF6_f40_ren : Go.Shelf.Ren := ⟨fun | 6 => 40 | 15 => 62 | 14 => 61 | 28 => 90 | 29 => 91 | 20 => 82 | 21 => 83 | 22 => 84 | 23 => 85 | 24 => 86 | 25 => 87 | 26 => 88 | 27 => 89 | 46 => 102 | 47 => 103 | 48 => 104 | 49 => 105 | 50 => 106 | 57 => 123 | n => n, fun | 22 => 62 | 24 => 9 | 25 => 79 | 3 => 3 | 39 => 105 | 0 => 0 | 53 => 134 | 55 => 32 | 4 => 4 | 46 => 127 | 45 => 126 | 50 => 131 | 5 => 5 | 9 => 9 | 66 => 149 | 70 => 152 | 76 => 165 | 77 => 166 | n => n, fun | n => n⟩
theorem Tryz.laysSlF6_f40 : Go.Proofs.SlLaysF.n6 Tryz.prog Tryz.laysSlF6_f40_ren := {
  mixed := by kernel_rfl
  f6 := ⟨Tryz.f40.name, by decide, Tryz.func40.trans (congrArg some (by kernel_rfl))⟩
  f14 := ⟨Tryz.f61.name, by decide, Tryz.func61.trans (congrArg some (by kernel_rfl))⟩
  f15 := Tryz.func62.trans (congrArg some (by kernel_rfl))
  f20 := ⟨Tryz.f82.name, by decide, Tryz.func82.trans (congrArg some (by kernel_rfl))⟩
  f21 := ⟨Tryz.f83.name, by decide, Tryz.func83.trans (congrArg some (by kernel_rfl))⟩
  f22 := ⟨Tryz.f84.name, by decide, Tryz.func84.trans (congrArg some (by kernel_rfl))⟩
  f23 := ⟨Tryz.f85.name, by decide, Tryz.func85.trans (congrArg some (by kernel_rfl))⟩
  f24 := ⟨Tryz.f86.name, by decide, Tryz.func86.trans (congrArg some (by kernel_rfl))⟩
  f25 := ⟨Tryz.f87.name, by decide, Tryz.func87.trans (congrArg some (by kernel_rfl))⟩
  f26 := ⟨Tryz.f88.name, by decide, Tryz.func88.trans (congrArg some (by kernel_rfl))⟩
  f27 := ⟨Tryz.f89.name, by decide, Tryz.func89.trans (congrArg some (by kernel_rfl))⟩
  f28 := Tryz.func90.trans (congrArg some (by kernel_rfl))
  f29 := Tryz.func91.trans (congrArg some (by kernel_rfl))
  f46 := ⟨Tryz.f102.name, by decide, Tryz.func102.trans (congrArg some (by kernel_rfl))⟩
  f47 := Tryz.func103.trans (congrArg some (by kernel_rfl))
  f48 := Tryz.func104.trans (congrArg some (by kernel_rfl))
  f49 := ⟨Tryz.f105.name, by decide, Tryz.func105.trans (congrArg some (by kernel_rfl))⟩
  f50 := ⟨Tryz.f106.name, by decide, Tryz.func106.trans (congrArg some (by kernel_rfl))⟩
  f57 := ⟨Tryz.f123.name, by decide, Tryz.func123.trans (congrArg some (by kernel_rfl))⟩
  t0 := Tryz.underlying0
  a0 := Tryz.isAgg0
  z0 := Tryz.sizeOf0
  v0 := Tryz.zeroValue0
  t3 := Tryz.underlying3
  a3 := Tryz.isAgg3
  z3 := Tryz.sizeOf3
  v3 := Tryz.zeroValue3
  t4 := Tryz.underlying4
  a4 := Tryz.isAgg4
  z4 := Tryz.sizeOf4
  v4 := Tryz.zeroValue4
  t5 := Tryz.underlying5
  a5 := Tryz.isAgg5
  z5 := Tryz.sizeOf5
  v5 := Tryz.zeroValue5
  t9 := Tryz.underlying9
  a9 := Tryz.isAgg9
  z9 := Tryz.sizeOf9
  v9 := Tryz.zeroValue9
  t22 := Tryz.underlying62
  a22 := Tryz.isAgg62
  z22 := Tryz.sizeOf62
  v22 := Tryz.zeroValue62
  a24 := Tryz.isAgg9
  z24 := Tryz.sizeOf9
  t25 := Tryz.underlying79
  a25 := Tryz.isAgg79
  z25 := Tryz.sizeOf79
  v25 := Tryz.zeroValue79
  t39 := Tryz.underlying105
  a39 := Tryz.isAgg105
  z39 := Tryz.sizeOf105
  v39 := Tryz.zeroValue105
  t45 := Tryz.underlying126
  a45 := Tryz.isAgg126
  z45 := Tryz.sizeOf126
  v45 := Tryz.zeroValue126
  t46 := Tryz.underlying127
  a46 := Tryz.isAgg127
  z46 := Tryz.sizeOf127
  v46 := Tryz.zeroValue127
  t50 := Tryz.underlying131
  a50 := Tryz.isAgg131
  z50 := Tryz.sizeOf131
  v50 := Tryz.zeroValue131
  t53 := Tryz.underlying134
  a53 := Tryz.isAgg134
  z53 := Tryz.sizeOf134
  v53 := Tryz.zeroValue134
  t55 := Tryz.underlying32
  a55 := Tryz.isAgg32
  z55 := Tryz.sizeOf32
  v55 := Tryz.zeroValue32
  t66 := Tryz.underlying149
  a66 := Tryz.isAgg149
  z66 := Tryz.sizeOf149
  v66 := Tryz.zeroValue149
  t70 := Tryz.underlying152
  a70 := Tryz.isAgg152
  z70 := Tryz.sizeOf152
  v70 := Tryz.zeroValue152
  t76 := Tryz.underlying165
  a76 := Tryz.isAgg165
  z76 := Tryz.sizeOf165
  v76 := Tryz.zeroValue165
  t77 := Tryz.underlying166
  a77 := Tryz.isAgg166
  z77 := Tryz.sizeOf166
  v77 := Tryz.zeroValue166 }
open Go.RowKit Go.Sort in
theorem Tryz.slices_SortFunc_total {α : Type} [Inhabited α] (enc : α → Value) (h1 : OneCell enc) (cf : α → α → Int) (hO : SWO (ltOf cf)) (g : Nat) (cb : Array Value) (blk off cap : Nat) (d : Array α) (w : World) (eg : ∀ args w, (callFunc g args).run Tryz.prog w = .ok (.enter g args) w) (hcmp : CmpLays1 Tryz.prog g cb enc cf blk off d.size w) (hH : Holds enc w blk off d) (hblk : blk < w.heap.size) (hsz : d.size < 4611686018427387904) (hT : ∀ x y, (ltOf cf) x y = false → (ltOf cf) y x = false → x = y) :
    Calls Tryz.prog 40 #[.slice (some ⟨blk, off, none⟩) d.size cap, .func (.func g) #[] cb] w fun e w' =>
      e = .returned (.tuple #[]) ∧ ∃ n os, w' = sortWorld enc w blk off n (d.toList.mergeSort fun x y => !(ltOf cf) y x).toArray os := Any.slices_SortFunc_total Tryz.laysSlF6_f40 enc h1 cf hO g cb blk off cap d w eg hcmp hH hblk hsz hT
open Go.RowKit Go.Sort in
theorem Tryz.slices_SortFunc_none (p : Option Addr) (cap : Nat) (fv : Value) (w : World) :
    Calls Tryz.prog 40 #[.slice p 0 cap, fv] w fun e w' => e = .returned (.tuple #[]) ∧ w' = w := AnyF.slices_SortFunc_none (ρ := Tryz.laysSlF6_f40_ren) { Tryz.laysSlF6_f40 with } p cap fv w
end Go.Proofs
/- H4: layer 11: the numbers of a log's segments, rising. -/
namespace Go.V
open Go.RowKit
def bas (l : List (List UInt8)) : List ByteArray := l.map fun d => ⟨d.toArray⟩
theorem dot_data (p : ByteArray) : (dotF p).data.toList = p.data.toList ++ [46] := by
  unfold dotF
  rw [ByteArray.data_append, Array.toList_append]
theorem names_ds {p : ByteArray} {lo k : Nat} {names : List ByteArray} (h : names.Perm ((List.range' lo k).map (nameF p))) : ∃ ds : List (List UInt8), names = ds.map (fun d => dotF p ++ ⟨d.toArray⟩) ∧ ds.Perm (nums lo k) := by
  let g : List UInt8 → ByteArray := fun d => dotF p ++ ⟨d.toArray⟩
  let st : ByteArray → List UInt8 := fun n => n.data.toList.drop (dotF p).data.toList.length
  have hg : ∀ d, st (g d) = d := by
    intro d
    show (dotF p ++ ⟨d.toArray⟩ : ByteArray).data.toList.drop (dotF p).data.toList.length = d
    rw [ByteArray.data_append, Array.toList_append, List.drop_left]
  have hm : (List.range' lo k).map (nameF p) = (nums lo k).map g := by
    unfold nums
    rw [List.map_map]
    rfl
  rw [hm] at h
  refine ⟨names.map st, ?_, ?_⟩
  · rw [List.map_map]
    symm
    refine (List.map_congr_left fun n hn => ?_).trans (List.map_id _)
    obtain ⟨d, _, rfl⟩ := List.mem_map.1 (h.mem_iff.1 hn)
    show g (st (g d)) = g d
    rw [hg]
  · have h2 := h.map st
    rw [List.map_map] at h2
    have e : (nums lo k).map (st ∘ g) = nums lo k := by
      refine (List.map_congr_left fun d _ => ?_).trans (List.map_id _)
      exact hg d
    rwa [e] at h2
theorem nums_num {lo k : Nat} (hlo : 1 ≤ lo) {d : List UInt8} (h : d ∈ nums lo k) : numB d = true ∧ ∃ i, lo ≤ i ∧ i < lo + k ∧ d = digs i := by
  unfold nums at h
  obtain ⟨i, hi, rfl⟩ := List.mem_map.1 h
  rw [List.mem_range'] at hi
  obtain ⟨j, hj, rfl⟩ := hi
  exact ⟨digs_num (by omega), _, by omega, by omega, rfl⟩
theorem strs_el {w : World} {F : Nat → Prop} {A : Option Addr} {n c : Nat} {l : List ByteArray} (h : Rd w F (.slice A n c) (strs l)) {i : Nat} {s : ByteArray} (hs : l[i]? = some s) : ∃ g off, A = some ⟨g, off, none⟩ ∧ F g ∧ w.cell? ⟨g, off + i, none⟩ = some (.string s) := by
  obtain ⟨A', c', e⟩ := strs_shape h
  injection e with e1 e2 e3
  subst e2
  unfold strs at h
  obtain ⟨g, off, u, hA, hF, hc, hu⟩ := Rd.elem h i (.atom (.string s)) (by rw [List.getElem?_map, hs]; rfl)
  unfold Rd at hu
  subst hu
  exact ⟨g, off, hA, hF, hc⟩
theorem enc_bas (d : List UInt8) : Proofs.encStr d = .string ⟨d.toArray⟩ := rfl
end Go.V
namespace Go.Proofs.YtcechioeolokcaaGreatDoor
open Go.RowKit Go.V
set_option maxRecDepth 100000 in
set_option maxHeartbeats 2000000 in
theorem file_e (x : Nat) (dv : Value) (pre num s : ByteArray) (sz nx : Nat) (w : World) (hx : Blk w x 57 (lgL dv pre num sz nx)) (hp : pre.size ≤ 8) (hs : s.size ≤ 1000) :
    Calls Tryz.prog 31 #[.pointer (some ⟨x, 0, none⟩), .string s] w fun e w' => e = .returned (.string (dotF pre ++ s)) ∧ w' = w := by
  have c1 := hx.cellAt 1 _ rfl
  go_enter Tryz.func31, Tryz.ntmps31
  go_wp2
  go_ret
  exact ⟨rfl, rfl⟩
theorem cmp_lays (blk off size : Nat) (w : World) : CmpLays1 Tryz.prog 41 #[] Proofs.encStr cmpN blk off size w := by
  intro m os dk _ x y
  refine (order_e ⟨x.toArray⟩ ⟨y.toArray⟩ _).mono ?_
  rintro e w1 ⟨rfl, o, rfl⟩
  exact ⟨rfl, 0, #[o], Go.Sort.alloc_eq_grow _ _⟩
set_option maxRecDepth 100000 in
set_option maxHeartbeats 4000000 in
theorem segments_e (x lo k : Nat) (dv : Value) (pre num : ByteArray) (sz nx : Nat) (M F : Nat → Prop) (D : Dk) (w : World) (hx : Blk w x 57 (lgL dv pre num sz nx)) (hI : IX w dv M F D) (hs : DkSm D) (hn : ((nowF D).map Fl.n).Perm ((List.range' lo k).map (nameF pre))) (hp : pre.size ≤ 8) (hlo : 1 ≤ lo) (hk : k ≤ 1000000) (hlk : lo + k ≤ 10 ^ 10) :
    Calls Tryz.prog 22 #[.pointer (some ⟨x, 0, none⟩)] w fun e w' => ∃ A c, e = .returned (.slice A k c) ∧ Rd w' (fun b => w.heap.size ≤ b) (.slice A k c) (strs (bas (nums lo k))) ∧ Below w.heap.size w w' := by
  obtain ⟨ds, hds, hdp⟩ := names_ds hn
  have hkl : ds.length = k := by rw [hdp.length_eq]; unfold nums; simp
  obtain ⟨xd, rfl⟩ := hI.ptr
  have c0 := hx.cellAt 0 _ rfl
  have hxl := hx.lt
  have hnm := names10_any _ M F D w hI hs
  rw [hds] at hnm
  have Hnm := hid hnm
  have Hdp := hid hdp
  have Hkl := hid hkl
  have Hnum : Hid (∀ d ∈ ds, numB d = true ∧ d.length ≤ 10) := hid fun d hd => by
    obtain ⟨h1, i, _, h3, rfl⟩ := nums_num hlo (hdp.mem_iff.1 hd)
    exact ⟨h1, digs_len 10 i (by omega)⟩
  clear hnm hdp hkl hds hn hI hs
  go_enter Tryz.func22, Tryz.ntmps22
  go_wp2_with (fail)
  refine Hnm.out.mono ?_
  rintro e w1 ⟨vn, rfl, hvn, hB1⟩
  obtain ⟨An, cn, rfl⟩ := strs_shape hvn
  rw [List.length_map] at hvn ⊢
  have hw1 := hB1.size
  obtain ⟨B, hB⟩ : ∃ B, B = w1.heap.size := ⟨_, rfl⟩
  have hkb : ds.length ≤ 1000000 := by rw [Hkl.out]; exact hk
  go_wp2
  go_loopw [3, 14] (fun av iv wr => ∃ j : Nat, j ≤ ds.length ∧ iv = .int .i64 j ∧ wr.ownsRow B 9 1 av j ((ds.take j).map Proofs.encStr) ∧ Below w.heap.size w wr ∧ Below w1.heap.size w1 wr) (fun _ iv _ => ds.length - (intOf iv).toNat)
  case atStart => exact ⟨0, Nat.zero_le _, rfl, World.ownsRow_nil _ _ _ _, hB1, Below.refl _ _⟩
  case round =>
    obtain ⟨j, hj, rfl, ho, hB2, hB3⟩ := hrel
    have hin1 : IntKind.i64.wrap ((j : Int) + 1) = (j : Int) + 1 := IntWalk.i64_in _ (by omega)
    have hx2 := hx.below hB2
    have hvn2 := hvn.below hB3
    have hw2 := hB2.size
    by_cases hlt : j < ds.length
    · have hI : (j : Int) < (ds.length : Int) := by omega
      obtain ⟨d, hd⟩ : ∃ d, ds[j]? = some d := ⟨_, List.getElem?_eq_getElem hlt⟩
      obtain ⟨hn1, hn2⟩ := Hnum.out d (List.mem_of_getElem? hd)
      obtain ⟨g, off, rfl, _, hc⟩ := strs_el hvn2 (i := j) (s := dotF pre ++ ⟨d.toArray⟩) (by rw [List.getElem?_map, hd]; rfl)
      have htk : (ds.take (j + 1)).map Proofs.encStr = (ds.take j).map Proofs.encStr ++ [Proofs.encStr d] := by rw [List.take_add_one, hd]; simp
      have Htk := hid htk
      have Hn1 := hid hn1
      obtain ⟨ba, hba⟩ : ∃ ba : ByteArray, ba = ⟨d.toArray⟩ := ⟨_, rfl⟩
      have Hba := hid hba
      have hbs : ba.size ≤ 10 := by rw [hba]; show d.toArray.size ≤ 10; simp; omega
      rw [← hba] at hc
      clear htk hd hn1 hn2 hba hvn2
      obtain ⟨nm, hnm⟩ : ∃ nm, nm = dotF pre ++ ba := ⟨_, rfl⟩
      rw [← hnm] at hc
      have hds : (dotF pre).size ≤ 9 := by unfold dotF; rw [ba_size]; show pre.size + 1 ≤ 9; omega
      have hcut := fun W => cutp_e (dotF pre) ba W (by simp [maxLen]; omega)
      have hfile := fun W h => file_e x (.pointer (some ⟨xd, 0, none⟩)) pre num ByteArray.empty sz nx W h hp (by simp)
      rw [← hnm] at hcut
      have hde : dotF pre ++ ByteArray.empty = dotF pre := by
        apply ByteArray.ext
        rw [ByteArray.data_append]
        exact Array.append_empty
      rw [hde] at hfile
      have Hcut := hid hcut
      have Hfile := hid hfile
      clear hnm hcut hfile hde
      go_wp2_with (fail)
      refine (Hfile.out _ hx2).mono ?_
      rintro e w3 ⟨rfl, rfl⟩
      go_wp2_with (fail)
      refine (Hcut.out _).mono ?_
      rintro e w4 ⟨rfl, rfl⟩
      go_wp2_with (fail)
      refine (isNumber_e ba _ (by simp [maxLen]; omega)).mono ?_
      rintro e w5 ⟨rfl, hB5⟩
      have hnb : numB ba.data.toList = true := by rw [Hba.out]; exact Hn1.out
      rw [hnb]
      have ho5 := own_bel ho hB5
      have hB25 := hB2.trans (hB5.mono hw2)
      have hB35 := hB3.trans (hB5.mono hB3.size)
      have hz5 := hB35.size
      clear hB5 ho hB2 hB3 hx2
      go_wp2_with (refine wp_push (.tmp 30) (.tmp 31) 32 slS10 rfl rfl rfl rfl rfl (u := .string ba) rfl rfl rfl (by simp) rfl ho5 (by simp only [maxLen]; omega) (by omega) (by omega) ?_; intro v6 w6 ho6 hG6 hd6; refine wp_stop ?_)
      have hB6 := hB25.grown hG6 (by omega) (fun k hk => by have := (ho5.lt k hk).1; omega)
      have hB7 : Below w1.heap.size w1 w6 := hB35.grown hG6 hB35.size (fun k hk => by have := (ho5.lt k hk).1; omega)
      have hob : (Proofs.encStr d) = .string ba := by rw [Hba.out]; try rfl
      rw [← hob, ← Htk.out] at ho6
      clear hG6 ho5 hB25 hB35 hd6 hob
      refine wp_go ?_
      go_wp2
      go_roundw
      case rel => exact ⟨j + 1, by omega, by go_num, ho6, hB6, hB7⟩
      case measure => simp [intOf]; omega
    · have hj' : j = ds.length := by omega
      subst hj'
      have hI : ¬ (ds.length : Int) < (ds.length : Int) := by omega
      rw [List.take_length] at ho
      have hord := Hdp.out
      have hso : (ds.mergeSort fun x y => !(ltOf cmpN) y x) = nums lo k := nums_sort hord
      have hord2 := Hkl.out
      have Hso := hid hso
      clear hso hord
      rcases ho.2 with ⟨hv, hn0⟩ | ⟨g, cap, cur, hv, hbase, hb, h1, h2, h3, h4⟩
      · subst hv
        have hk0 : k = 0 := by omega
        clear hord2
        subst hk0
        go_wp2_with (fail)
        refine (Tryz.slices_SortFunc_none _ _ _ _).mono ?_
        rintro e w3 ⟨rfl, rfl⟩
        go_wp2
        go_ret
        exact ⟨none, 0, rfl, strs_nil, hB2⟩
      · subst hv
        have hH : Go.Sort.Holds Proofs.encStr wr g 0 ds.toArray := holds_of_block hb (by simpa using h4)
        have hgl : g < wr.heap.size := (Array.getElem?_eq_some_iff.1 hb).1
        have hsort := Tryz.slices_SortFunc_total Proofs.encStr (fun _ => rfl) cmpN swoN 41 #[] g 0 cap ds.toArray wr (enters_of Tryz.func41 (by kernel_rfl) rfl) (cmp_lays g 0 _ wr) hH hgl (by simp; omega) antiN
        rw [show ds.toArray.toList = ds from by simp, Hso.out, show ds.toArray.size = ds.length from by simp] at hsort
        have Hsort := hid hsort
        clear hsort hH
        have Hk := hid hord2
        clear hord2
        go_wp2_with (fail)
        refine Hsort.out.mono ?_
        rintro e w3 ⟨rfl, n, os, rfl⟩
        have hnl : (nums lo k).length = ds.length := by unfold nums; rw [List.length_map, List.length_range', Hk.out]
        have hown := ownsRow_sorted (n := n) (os := os) (ss := ds) (ts := nums lo k) hnl hbase hb (by simpa using h1) h2 h3
        have hgr := grownBy_sorted (w := wr) (g := g) (n := n) (os := os) (nums lo k).toArray
        have hB4 := hB2.grown hgr hw2 (fun k hk => by injection hk with hk; omega)
        rw [show sortWorld Proofs.encStr wr g 0 n (nums lo k).toArray os = Go.Sort.grow (Go.Sort.putRow Proofs.encStr (Go.Sort.ahead wr n) g 0 (nums lo k).toArray) os from rfl]
        obtain ⟨w3, hw3⟩ : ∃ w3, w3 = Go.Sort.grow (Go.Sort.putRow Proofs.encStr (Go.Sort.ahead wr n) g 0 (nums lo k).toArray) os := ⟨_, rfl⟩
        rw [← hw3] at hown hB4 ⊢
        have hnk : (bas (nums lo k)).length = ds.length := by unfold bas; rw [List.length_map]; exact hnl
        have hmp : (nums lo k).map Proofs.encStr = (bas (nums lo k)).map Value.string := by unfold bas; rw [List.map_map]; rfl
        rw [hmp, ← hnk] at hown
        have Hr := hid ((strs_own hown).weak (F' := fun b => w.heap.size ≤ b) (fun b _ e => by have e : B ≤ b := e; omega))
        rw [hnk] at Hr
        clear hw3 hgr hown hnl hnk hmp Hsort
        go_wp2
        go_ret
        exact ⟨_, cap, (by rw [Hk.out]; try rfl), by have := Hr.out; rw [Hk.out] at this; exact this, hB4⟩
end Go.Proofs.YtcechioeolokcaaGreatDoor
/- H5: layer 11: a log in memory; what puts records. -/
namespace Go.V
open Go.RowKit
def acP (n : ByteArray) (b : List UInt8) : Ac := ⟨0, n, ByteArray.empty, b, 0, 0, 0, 0⟩
def acX (n : ByteArray) : Ac := ⟨3, n, ByteArray.empty, [], 0, 0, 0, 0⟩
def acS : Ac := ⟨4, ByteArray.empty, ByteArray.empty, [], 0, 0, 0, 0⟩
theorem acP_sm {n : ByteArray} {b : List UInt8} (hn : n.size ≤ 1000) (hb : b.length ≤ 1000000000) : AcSm (acP n b) := ⟨hb, (show (0 : Nat) < 18446744073709551616 by decide), (show (-9223372036854775808 : Int) ≤ 0 ∧ (0 : Int) ≤ 9223372036854775807 by decide), (show (-9223372036854775808 : Int) ≤ 0 ∧ (0 : Int) ≤ 9223372036854775807 by decide), by show n.size ≤ maxLen; simp [maxLen]; omega, by show (0 : Nat) ≤ maxLen; simp [maxLen]⟩
theorem acDl_sm {n : ByteArray} (hn : n.size ≤ 1000) : AcSm (acX n) := ⟨Nat.zero_le _, (show (0 : Nat) < 18446744073709551616 by decide), (show (-9223372036854775808 : Int) ≤ 0 ∧ (0 : Int) ≤ 9223372036854775807 by decide), (show (-9223372036854775808 : Int) ≤ 0 ∧ (0 : Int) ≤ 9223372036854775807 by decide), by show n.size ≤ maxLen; simp [maxLen]; omega, by show (0 : Nat) ≤ maxLen; simp [maxLen]⟩
end Go.V
namespace Go.Proofs.YtcechioeolokcaaGreatDoor
open Go.RowKit Go.V
/-- a log's cells at x, its disk at dv -/
structure LS (w : World) (x : Nat) (dv : Value) (pre num : ByteArray) (sz nx : Nat) (Md F : Nat → Prop) (D : Dk) : Prop where
  b : Blk w x 57 (lgL dv pre num sz nx)
  i : IX w dv Md F D
  mx : ¬ Md x
  fx : ¬ F x
  cm : ¬ Md (0 : Nat)
  xk : x ≠ (0 : Nat)
theorem LS.keep {w w' : World} {x : Nat} {dv : Value} {pre num : ByteArray} {sz nx : Nat} {Md F : Nat → Prop} {D : Dk} (h : LS w x dv pre num sz nx Md F D) (hk : ∀ b, b < w.heap.size → b = x ∨ Md b ∨ F b → w'.heap[b]? = w.heap[b]?) (hs : w.heap.size ≤ w'.heap.size) : LS w' x dv pre num sz nx Md F D :=
  ⟨h.b.keep (hk x h.b.lt (.inl rfl)), h.i.keep (fun b hb e => hk b hb (.inr e)) hs, h.mx, h.fx, h.cm, h.xk⟩
theorem LS.below {w w' : World} {x : Nat} {dv : Value} {pre num : ByteArray} {sz nx : Nat} {Md F : Nat → Prop} {D : Dk} (h : LS w x dv pre num sz nx Md F D) (hB : Below w.heap.size w w') : LS w' x dv pre num sz nx Md F D := h.keep (fun b hb _ => hB.block b hb) hB.size
theorem LS.drew {w : World} {x : Nat} {dv : Value} {pre num : ByteArray} {sz nx : Nat} {Md F : Nat → Prop} {D : Dk} (h : LS w x dv pre num sz nx Md F D) : LS w.drew x dv pre num sz nx Md F D := h.keep (fun _ _ _ => rfl) (Nat.le_refl _)
/-- what an operation leaves -/
def LSp (w w' : World) (x : Nat) (dv : Value) (pre num : ByteArray) (sz nx : Nat) (Md F : Nat → Prop) (D : Dk) : Prop :=
  ∃ Md' F', LS w' x dv pre num sz nx Md' F' D ∧ Ch (fun b => Md b ∨ b = x) w w' ∧ (∀ b, Md' b → Md b ∨ w.heap.size ≤ b) ∧ (∀ b, F' b → F b ∨ Md b ∨ w.heap.size ≤ b)
theorem LSp.trans {w w1 w2 : World} {x : Nat} {dv : Value} {pre num : ByteArray} {sz nx : Nat} {Md F M1 F1 : Nat → Prop} {D : Dk} (hC : Ch (fun b => Md b ∨ b = x) w w1) (hM : ∀ b, M1 b → Md b ∨ w.heap.size ≤ b) (hF : ∀ b, F1 b → F b ∨ Md b ∨ w.heap.size ≤ b) (h : LSp w1 w2 x dv pre num sz nx M1 F1 D) : LSp w w2 x dv pre num sz nx Md F D := by
  obtain ⟨M2, F2, hL, hC2, hM2, hF2⟩ := h
  have hs := hC.size
  refine ⟨M2, F2, hL, hC.transN hC2 ?_, fun b e => ?_, fun b e => ?_⟩
  · rintro y (e | e)
    · exact (hM y e).imp .inl id
    · exact .inl (.inr e)
  · rcases hM2 b e with e | e
    · exact hM b e
    · exact .inr (by omega)
  · rcases hF2 b e with e | e | e
    · exact hF b e
    · exact (hM b e).elim (fun e => .inr (.inl e)) (fun e => .inr (.inr e))
    · exact .inr (.inr (by omega))
theorem LSp.refl {w w' : World} {x : Nat} {dv : Value} {pre num : ByteArray} {sz nx : Nat} {Md F : Nat → Prop} {D : Dk} (h : LS w x dv pre num sz nx Md F D) (hB : Below w.heap.size w w') : LSp w w' x dv pre num sz nx Md F D :=
  ⟨Md, F, h.below hB, (Ch.of_below hB).weaken (fun _ _ e => e.elim), fun _ e => .inl e, fun _ e => .inl e⟩
theorem LSp.ch {w w' : World} {x : Nat} {dv : Value} {pre num : ByteArray} {sz nx : Nat} {Md F : Nat → Prop} {D : Dk} (h : LSp w w' x dv pre num sz nx Md F D) : Ch (fun b => Md b ∨ b = x) w w' := by obtain ⟨_, _, _, h, _⟩ := h; exact h
theorem next_e (x : Nat) (dv : Value) (pre num : ByteArray) (sz nx : Nat) (w : World) (hx : Blk w x 57 (lgL dv pre num sz nx)) :
    Calls Tryz.prog 14 #[.pointer (some ⟨x, 0, none⟩)] w fun e w' => e = .returned (.int .u64 (nx : Int)) ∧ w' = w := by
  have c4 := hx.cellAt 4 _ rfl
  go_enter Tryz.func14, Tryz.ntmps14
  go_wp2
  go_ret
  exact ⟨rfl, rfl⟩
theorem sizeSeg : (Tryz.prog.info? 55).map (·.size) = some 2 := by kernel_rfl
def zSeg : List Value := [.string ByteArray.empty, .int .i64 0]
theorem zeroSeg : (Tryz.prog.info? 55).map (·.zero) = some (some (.agg zSeg.toArray)) := by kernel_rfl
theorem one_seg {n : ByteArray} {k : Int} : ∀ v ∈ [Value.string n, .int .i64 k], v.oneCell' = true := by
  intro v hv
  simp at hv
  rcases hv with rfl | rfl <;> rfl
set_option maxRecDepth 100000 in
set_option maxHeartbeats 2000000 in
theorem fresh_e (x m : Nat) (dv : Value) (pre : ByteArray) (sz nx : Nat) (w : World) (hx : Blk w x 57 (lgL dv pre ⟨(digs m).toArray⟩ sz nx)) (hm : m < 10 ^ 10) :
    Calls Tryz.prog 20 #[.pointer (some ⟨x, 0, none⟩)] w fun e w' => e = .returned (.agg #[.string ⟨(digs (m + 1)).toArray⟩, .int .i64 0]) ∧ Below w.heap.size w w' := by
  have hB0 : Below w.heap.size w (w.alloc (.cells zSeg.toArray 55)) := (Below.refl _ _).alloc (Nat.le_refl _) _
  have bz := Blk.new' w 55 zSeg
  have x0 := hx.below hB0
  have hl := digs_len 10 m hm
  obtain ⟨d, hd⟩ : ∃ d, d = digs m := ⟨_, rfl⟩
  have hinc : incF d = digs (m + 1) := by rw [hd]; exact inc_digs m
  rw [← hd] at x0 hx hl
  rw [← hinc]
  clear hd hinc
  have c2 := x0.cellAt 2 _ rfl
  go_enter Tryz.func20, Tryz.ntmps20
  go_wp2_with (first | (refine wp_new 55 rfl rfl zeroSeg ?_; refine wp_stop ?_))
  obtain ⟨w0, hw0⟩ : ∃ w0, w0 = w.alloc (.cells zSeg.toArray 55) := ⟨_, rfl⟩
  rw [← hw0] at x0 hB0 bz c2 ⊢
  obtain ⟨g0, hg0⟩ : ∃ g0, g0 = w.heap.size := ⟨_, rfl⟩
  rw [← hg0] at bz ⊢
  have hgw : w.heap.size ≤ g0 := by omega
  clear hw0 hg0
  refine wp_go ?_
  go_wp2_with (fail)
  refine (after_e d (by omega) _).mono ?_
  rintro e w1 ⟨rfl, hB1⟩
  have bz1 := bz.below hB1
  have hB1' := hB0.trans (hB1.mono hB0.size)
  clear hB1 bz x0 c2
  go_wp2_with (first | (refine wp_st 55 (.tmp 2) (.tmp 9) rfl rfl rfl (f := 0) rfl (l := [.string ⟨(incF d).toArray⟩, .int .i64 0]) rfl bz1 (by simp [zSeg]) sizeSeg one_seg ?_; intro w3 hb3 hG3; refine wp_stop ?_))
  refine wp_go ?_
  go_wp2
  refine ret_cell rfl rfl hb3.whole Tryz.underlying55 rfl sizeSeg rfl ?_
  exact ⟨rfl, hB1'.grown hG3 hB1'.size (fun k hk => by injection hk with hk; omega)⟩
set_option maxRecDepth 100000 in
set_option maxHeartbeats 4000000 in
theorem add_e (x : Nat) (dv : Value) (pre num n' : ByteArray) (sz nx s0 : Nat) (Md F G : Nat → Prop) (D D' : Dk) (E : Int) (b : List UInt8) (vb : Value) (w : World) (hL : LS w x dv pre num sz nx Md F D) (hs : DkSm D) (hp : pre.size ≤ 8) (hn' : n'.size ≤ 900) (hb : b.length ≤ 1000000000) (hs0 : s0 ≤ 1000000000000) (hvb : Rd w G vb (bys b)) (hG : ∀ y, G y → ¬ Md y) (hcl : (0 : Nat) < w.heap.size)
    (hE : E = (doF D (acP (dotF pre ++ n') b)).2) (hD' : D' = (doF D (acP (dotF pre ++ n') b)).1) :
    Calls Tryz.prog 35 #[.pointer (some ⟨x, 0, none⟩), .agg #[.string n', .int .i64 (s0 : Int)], vb] w fun e w' => e = .returned (.int .i64 E) ∧ (if E = 0 then LSp w w' x dv pre n' (s0 + b.length) nx Md F D' else LSp w w' x dv pre num sz nx Md F D') := by
  obtain ⟨Ab, cb, rfl⟩ := hvb.shape
  obtain ⟨xd, rfl⟩ := hL.i.ptr
  have hB0 : Below w.heap.size w (w.alloc (.cells #[.string n', .int .i64 (s0 : Int)] 55)) := (Below.refl _ _).alloc (Nat.le_refl _) _
  have g4 := Blk.new' w 55 [.string n', .int .i64 (s0 : Int)]
  have hL1 := hL.below hB0
  have hv1 := hvb.below hB0
  have hbd := hL.i.bd
  have Hcl := hid hcl
  clear hcl
  have hxl := hL.b.lt
  have hds : (dotF pre).size ≤ 9 := by unfold dotF; rw [ba_size]; show pre.size + 1 ≤ 9; omega
  have hac : AcSm (acP (dotF pre ++ n') b) := acP_sm (by rw [ba_size]; omega) hb
  have hn'' : n'.size ≤ 1000 := by omega
  obtain ⟨Q, hQ⟩ : ∃ Q : World → Prop, Q = fun w' => if E = 0 then LSp w w' x (.pointer (some ⟨xd, 0, none⟩)) pre n' (s0 + b.length) nx Md F D' else LSp w w' x (.pointer (some ⟨xd, 0, none⟩)) pre num sz nx Md F D' := ⟨_, rfl⟩
  show Calls _ _ _ w fun e w' => e = .returned (.int .i64 E) ∧ (fun w' => if E = 0 then LSp w w' x (.pointer (some ⟨xd, 0, none⟩)) pre n' (s0 + b.length) nx Md F D' else LSp w w' x (.pointer (some ⟨xd, 0, none⟩)) pre num sz nx Md F D') w'
  rw [← hQ]
  have HQ := hid hQ
  clear hQ hn'
  have hn' := hn''
  obtain ⟨w1, hw1⟩ : ∃ w1, w1 = w.alloc (.cells #[.string n', .int .i64 (s0 : Int)] 55) := ⟨_, rfl⟩
  obtain ⟨g, hg⟩ : ∃ g, g = w.heap.size := ⟨_, rfl⟩
  go_enter Tryz.func35, Tryz.ntmps35
  go_upto_region 1 with (fail)
  rw [← hw1] at hB0 g4 hL1 hv1 ⊢
  rw [← hg] at g4 ⊢
  have hgw : w.heap.size ≤ g := by omega
  clear hw1 hg
  have hgM : ¬ Md g := fun e => by have := hbd g (.inl e); omega
  have HX0 : Hid (∀ W, Ch Md w1 W → W.cell? ⟨x, 0, none⟩ = some (.pointer (some ⟨xd, 0, none⟩))) := hid fun W hc => (hL1.b.ch hc hL.mx).cellAt 0 _ rfl
  have HG0 : Hid (∀ W, Ch Md w1 W → W.cell? ⟨g, 0, none⟩ = some (.string n')) := hid fun W hc => (g4.ch hc hgM).cellAt 0 _ rfl
  have HXB : Hid (∀ W, Ch Md w1 W → Blk W x 57 (lgL (.pointer (some ⟨xd, 0, none⟩)) pre num sz nx)) := hid fun W hc => hL1.b.ch hc hL.mx
  have HIX := hid hL1.drew.i
  have HVB := hid hv1.drew
  -- ADD
  refine wp_region_noPanic ?_
  refine wp_region_held_drew (S := Ch Md w1) (by kernel_rfl) ((Ch.refl _ _).drew) (fun hHeld => ?_)
  refine wpAnyH_take (i := 0) (oi := ⟨some 8, _, _, _, _, none⟩) (v := ?_) rfl (by kernel_rfl) (by kernel_rfl) (by kernel_rfl) (fun _ _ _ h => h) (Or.inl ⟨by rfl, ?_⟩) (by assumption) ?_
  rotate_left
  · intro w hSw; go_simp; try with_reducible rfl
  try simp only [Act.put, List.setIfInBounds_toArray, List.set_cons_zero, List.set_cons_succ]
  refine wpAnyH_take (i := 1) (oi := ⟨some 9, _, _, _, _, none⟩) (v := ?_) rfl (by kernel_rfl) (by kernel_rfl) (by kernel_rfl) (fun _ _ _ h => h) (Or.inl ⟨by rfl, ?_⟩) (by assumption) ?_
  rotate_left
  · intro w hSw; go_simp; try with_reducible rfl
  try simp only [Act.put, List.setIfInBounds_toArray, List.set_cons_zero, List.set_cons_succ]
  refine wpAnyH_take (i := 2) (oi := ⟨some 10, _, _, _, _, none⟩) (v := ?_) rfl (by kernel_rfl) (by kernel_rfl) (by kernel_rfl) (fun _ _ _ h => h) (Or.inl ⟨by rfl, ?_⟩) (by assumption) ?_
  rotate_left
  · intro w hSw; go_simp; try with_reducible rfl
  try simp only [Act.put, List.setIfInBounds_toArray, List.set_cons_zero, List.set_cons_succ]
  refine wpAnyH_take (i := 3) (oi := ⟨some 11, _, _, _, _, none⟩) (v := ?_) rfl (by kernel_rfl) (by kernel_rfl) (by kernel_rfl) (fun _ _ _ h => h) (Or.inl ⟨by rfl, ?_⟩) (by assumption) ?_
  rotate_left
  · intro w hSw; have hcw := HX0.out w hSw; go_simp; try with_reducible rfl
  try simp only [Act.put, List.setIfInBounds_toArray, List.set_cons_zero, List.set_cons_succ]
  refine wpAnyH_take (i := 4) (oi := ⟨some 12, _, _, _, _, none⟩) (v := ?_) rfl (by kernel_rfl) (by kernel_rfl) (by kernel_rfl) (fun _ _ _ h => h) (Or.inl ⟨by rfl, ?_⟩) (by assumption) ?_
  rotate_left
  · intro w hSw; go_simp; try with_reducible rfl
  try simp only [Act.put, List.setIfInBounds_toArray, List.set_cons_zero, List.set_cons_succ]
  refine wpAnyH_take (i := 5) (oi := ⟨some 13, _, _, _, _, none⟩) (v := ?_) rfl (by kernel_rfl) (by kernel_rfl) (by kernel_rfl) (fun _ _ _ h => h) (Or.inl ⟨by rfl, ?_⟩) (by assumption) ?_
  rotate_left
  · intro w hSw; go_simp; try with_reducible rfl
  try simp only [Act.put, List.setIfInBounds_toArray, List.set_cons_zero, List.set_cons_succ]
  refine wpAnyH_take (i := 6) (oi := ⟨some 14, _, _, _, _, none⟩) (v := ?_) rfl (by kernel_rfl) (by kernel_rfl) (by kernel_rfl) (fun _ _ _ h => h) (Or.inl ⟨by rfl, ?_⟩) (by assumption) ?_
  rotate_left
  · intro w hSw; have hcw := HG0.out w hSw; go_simp; try with_reducible rfl
  try simp only [Act.put, List.setIfInBounds_toArray, List.set_cons_zero, List.set_cons_succ]
  refine wpAnyH_take (i := 8) (oi := ⟨some 16, _, _, _, _, none⟩) (v := ?_) rfl (by kernel_rfl) (by kernel_rfl) (by kernel_rfl) (fun _ _ _ h => h) (Or.inl ⟨by rfl, ?_⟩) (by assumption) ?_
  rotate_left
  · intro w hSw; go_simp; try with_reducible rfl
  try simp only [Act.put, List.setIfInBounds_toArray, List.set_cons_zero, List.set_cons_succ]
  refine wpAnyH_ready (rs := [7]) (by kernel_rfl) (by simp) ?_
  refine AllReadyH.cons (o := ⟨some 15, _, _, _, _, none⟩) rfl (fun K hK => ?_) AllReadyH.nil
  go_simp
  refine (file_e x _ pre num n' sz nx _ (HXB.out _ hHeld) hp hn').mono ?_
  rintro e w5 ⟨rfl, rfl⟩
  refine hK.out _ _ (hHeld) (fun hHeld => ?_)
  clear hK K
  try simp only [Act.put, List.setIfInBounds_toArray, List.set_cons_zero, List.set_cons_succ]
  refine wpAnyH_ready (rs := [9]) (by kernel_rfl) (by simp) ?_
  refine AllReadyH.cons (o := ⟨some 17, _, _, _, _, none⟩) rfl (fun K hK => ?_) AllReadyH.nil
  go_simp
  refine (append10_any _ Md F G D (acP (dotF pre ++ n') b) _ _ HIX.out hs hac rfl HVB.out hG).mono ?_
  rw [← hE, ← hD']
  clear hE hD'
  rintro e w6 ⟨rfl, M6, F6, hI6, hC6, hM6, hF6⟩
  refine hK.out _ _ (hHeld.transN hC6 (fun _ e => .inl e)) (fun hHeld => ?_)
  clear hK K
  try simp only [Act.put, List.setIfInBounds_toArray, List.set_cons_zero, List.set_cons_succ]
  refine wpAnyH_take (i := 10) (oi := ⟨some 7, _, _, _, _, none⟩) (v := ?_) rfl (by kernel_rfl) (by kernel_rfl) (by kernel_rfl) (fun _ _ _ h => h) (Or.inl ⟨by rfl, ?_⟩) (by assumption) ?_
  rotate_left
  · intro w hSw; go_simp; try with_reducible rfl
  try simp only [Act.put, List.setIfInBounds_toArray, List.set_cons_zero, List.set_cons_succ]
  refine wpAnyH_done (by kernel_rfl) ?_ _
  refine NoPanic.normal ?_
  -- ADD end
  have hs1 : w1.drew.heap.size = w1.heap.size := rfl
  have hw1 := hB0.size
  have hw6 := hHeld.size
  have hC6' : Ch (fun b => Md b ∨ b = x) w w6 := ((Ch.of_below hB0).weaken (fun _ _ e => e.elim)).transN hHeld (fun y e => .inl (.inl e))
  have g6 := g4.ch hHeld hgM
  have x6 := hL1.b.ch hHeld hL.mx
  have hL6 : LS w6 x (.pointer (some ⟨xd, 0, none⟩)) pre num sz nx M6 F6 D' := ⟨x6, hI6, fun e => by rcases hM6 x e with e | e; exact hL.mx e; omega, fun e => by rcases hF6 x e with e | e | e; exact hL.fx e; exact hL.mx e; omega, fun e => by
    rcases hM6 _ e with e | e
    · exact hL.cm e
    · have := Hcl.out; omega, hL.xk⟩
  have hM6' : ∀ b, M6 b → Md b ∨ w.heap.size ≤ b := fun b e => (hM6 b e).imp id (fun e => by omega)
  have hF6' : ∀ b, F6 b → F b ∨ Md b ∨ w.heap.size ≤ b := fun b e => (hF6 b e).imp id (fun e => e.imp id (fun e => by omega))
  clear HX0 HG0 HXB HIX HVB hHeld hC6 hM6 hF6 hI6 hL1 hv1 g4 hs1 hB0
  by_cases hE0 : E = 0
  · subst hE0
    have HQ0 : Hid (∀ w', LSp w w' x (.pointer (some ⟨xd, 0, none⟩)) pre n' (s0 + b.length) nx Md F D' → Q w') := hid fun w' h => by rw [HQ.out]; exact h
    clear HQ
    have c0 := g6.cellAt 0 _ rfl
    have c1 := g6.cellAt 1 _ rfl
    have hws : IntKind.i64.wrap ((s0 : Int) + (b.length : Int)) = (s0 : Int) + (b.length : Int) := IntWalk.i64_in _ (by omega)
    go_wp2_with (first | (refine wp_st 55 (.tmp 31) (.tmp 29) rfl rfl rfl (b := x) (f := 2) rfl (l := [.string n', .int .i64 ((s0 : Int) + (b.length : Int))]) rfl x6 (by simp [lgL]) sizeSeg one_seg ?_; intro w7 hx7 hG7; refine wp_stop ?_))
    refine wp_go ?_
    go_wp2
    go_ret
    refine ⟨rfl, HQ0.out _ ?_⟩
    have hcx : Ch (fun y => y = x) w6 w7 := (Ch.refl _ _).grow hG7 (fun k hk => .inl (by injection hk with hk; exact hk.symm))
    refine ⟨M6, F6, ⟨?_, hL6.i.keep (fun y hy e => hcx.block y hy (fun e2 => by have e2 : y = x := e2; rw [e2] at e; exact e.elim hL6.mx hL6.fx)) hcx.size, hL6.mx, hL6.fx, hL6.cm, hL6.xk⟩, hC6'.transN hcx (fun y e => .inl (.inr e)), hM6', hF6'⟩
    rw [show lgL (.pointer (some ⟨xd, 0, none⟩)) pre n' (s0 + b.length) nx = List.take 2 (lgL (.pointer (some ⟨xd, 0, none⟩)) pre num sz nx) ++ [.string n', .int .i64 ((s0 : Int) + (b.length : Int))] ++ List.drop (2 + [Value.string n', .int .i64 ((s0 : Int) + (b.length : Int))].length) (lgL (.pointer (some ⟨xd, 0, none⟩)) pre num sz nx) from by simp [lgL]]
    exact hx7
  · have HQ0 : Hid (∀ w', LSp w w' x (.pointer (some ⟨xd, 0, none⟩)) pre num sz nx Md F D' → Q w') := hid fun w' h => by rw [HQ.out]; show if E = 0 then _ else _; rw [if_neg hE0]; exact h
    clear HQ
    go_wp2
    go_ret
    exact ⟨rfl, HQ0.out _ ⟨M6, F6, hL6, hC6', hM6', hF6'⟩⟩
theorem add_e2 (x : Nat) (dv : Value) (pre num n' : ByteArray) (sz nx s0 : Nat) (Md F G : Nat → Prop) (D D' : Dk) (E : Int) (b : List UInt8) (vb : Value) (w : World) (hL : LS w x dv pre num sz nx Md F D) (hs : DkSm D) (hp : pre.size ≤ 8) (hn' : n'.size ≤ 900) (hb : b.length ≤ 1000000000) (hs0 : s0 ≤ 1000000000000) (hvb : Rd w G vb (bys b)) (hG : ∀ y, G y → ¬ Md y) (hcl : (0 : Nat) < w.heap.size)
    (hE : E = (doF D (acP (dotF pre ++ n') b)).2) (hD' : D' = (doF D (acP (dotF pre ++ n') b)).1) :
    Calls Tryz.prog 35 #[.pointer (some ⟨x, 0, none⟩), .agg #[.string n', .int .i64 (s0 : Int)], vb] w fun e w' => e = .returned (.int .i64 E) ∧ ∃ num1 sz1, (E = 0 → num1 = n' ∧ sz1 = s0 + b.length) ∧ (E ≠ 0 → num1 = num ∧ sz1 = sz) ∧ LSp w w' x dv pre num1 sz1 nx Md F D' := by
  refine (add_e x dv pre num n' sz nx s0 Md F G D D' E b vb w hL hs hp hn' hb hs0 hvb hG hcl hE hD').mono ?_
  rintro e w1 ⟨rfl, h⟩
  refine ⟨rfl, ?_⟩
  by_cases h0 : E = 0
  · rw [if_pos h0] at h
    exact ⟨_, _, fun _ => ⟨rfl, rfl⟩, fun h => absurd h0 h, h⟩
  · rw [if_neg h0] at h
    exact ⟨_, _, fun h => absurd h h0, fun _ => ⟨rfl, rfl⟩, h⟩
set_option maxRecDepth 100000 in
set_option maxHeartbeats 4000000 in
theorem put_e (x : Nat) (dv : Value) (pre num n' : ByteArray) (sz nx s0 : Nat) (Md F G : Nat → Prop) (D D' : Dk) (E : Int) (t : List UInt8) (vt : Value) (w : World) (hK : KS w) (hL : LS w x dv pre num sz nx Md F D) (hs : DkSm D) (hp : pre.size ≤ 8) (hn' : n'.size ≤ 900) (ht : t.length ≤ 1000000) (hs0 : s0 ≤ 1000000000000) (hnx : nx ≤ 1000000000) (hvt : Rd w G vt (bys t))
    (hE : E = (doF D (acP (dotF pre ++ n') (recF nx t))).2) (hD' : D' = (doF D (acP (dotF pre ++ n') (recF nx t))).1) :
    Calls Tryz.prog 21 #[.pointer (some ⟨x, 0, none⟩), .agg #[.string n', .int .i64 (s0 : Int)], vt] w fun e w' => e = .returned (.int .i64 E) ∧ ∃ num1 sz1 nx1, (E = 0 → num1 = n' ∧ sz1 = s0 + (recF nx t).length ∧ nx1 = nx + 1) ∧ (E ≠ 0 → num1 = num ∧ sz1 = sz ∧ nx1 = nx) ∧ LSp w w' x dv pre num1 sz1 nx1 Md F D' := by
  obtain ⟨At, ct, rfl⟩ := hvt.shape
  obtain ⟨xd, rfl⟩ := hL.i.ptr
  have hrl : (recF nx t).length ≤ 1000000000 := by have := psz_bd nx; have := psz_bd t.length; rw [len_rec]; omega
  have hB0 : Below w.heap.size w (w.alloc (.cells #[.string n', .int .i64 (s0 : Int)] 55)) := (Below.refl _ _).alloc (Nat.le_refl _) _
  have g4 := Blk.new' w 55 [.string n', .int .i64 (s0 : Int)]
  have hL1 := hL.below hB0
  have hv1 := hvt.below hB0
  have hbd := hL.i.bd
  have hxl := hL.b.lt
  have K1 := hK.below hB0
  obtain ⟨w1, hw1⟩ : ∃ w1, w1 = w.alloc (.cells #[.string n', .int .i64 (s0 : Int)] 55) := ⟨_, rfl⟩
  obtain ⟨g, hg⟩ : ∃ g, g = w.heap.size := ⟨_, rfl⟩
  go_enter Tryz.func21, Tryz.ntmps21
  go_upto_region 1 with (fail)
  rw [← hw1] at hB0 g4 hL1 hv1 K1 ⊢
  rw [← hg] at g4 ⊢
  have hgw : w.heap.size ≤ g := by omega
  clear hw1 hg
  have hgM : ¬ Md g := fun e => by have := hbd g (.inl e); omega
  have hgx : g ≠ x := by omega
  have hww := hB0.size
  have hbd1 : ∀ y, Md y → y < w1.heap.size := fun y e => by have := hbd y (.inl e); omega
  have HX4 : Hid (w1.drew.cell? ⟨x, 4, none⟩ = some (.int .u64 (nx : Int))) := hid (hL1.drew.b.cellAt 4 _ rfl)
  have HG0 : Hid (∀ W, Ch (fun y => Md y ∨ y = x) w1 W → W.rangeAt g 0 [.string n', .int .i64 (s0 : Int)]) := hid fun W hc => (g4.ch hc (fun e => e.elim hgM hgx)).whole
  have HKS := hid K1.drew
  have HVT := hid hv1.drew
  have HL := hid hL1.drew
  -- PUT
  refine wp_region_noPanic ?_
  refine wp_region_held_drew (S := Ch (fun y => Md y ∨ y = x) w1) (by kernel_rfl) ((Ch.refl _ _).drew) (fun hHeld => ?_)
  refine wpAnyH_take (i := 0) (oi := ⟨some 8, _, _, _, _, none⟩) (v := ?_) rfl (by kernel_rfl) (by kernel_rfl) (by kernel_rfl) (fun _ _ _ h => h) (Or.inl ⟨by rfl, ?_⟩) (by assumption) ?_
  rotate_left
  · intro w hSw; go_simp; try with_reducible rfl
  try simp only [Act.put, List.setIfInBounds_toArray, List.set_cons_zero, List.set_cons_succ]
  refine wpAnyH_take (i := 1) (oi := ⟨some 9, .load 55 (.tmp 4), _, _, _, none⟩) (v := _) rfl (by kernel_rfl) (by kernel_rfl) (by kernel_rfl) (fun _ _ _ h => h) (yieldsIf_load_mid (by rfl) 55 (.tmp 4) (by rfl) _ (0) (by rfl) _ _ (fun _ hs => HG0.out _ hs) Tryz.underlying55 rfl (sizeSeg)) (by assumption) ?_
  try simp only [Act.put, List.setIfInBounds_toArray, List.set_cons_zero, List.set_cons_succ]
  refine wpAnyH_take (i := 2) (oi := ⟨some 10, _, _, _, _, none⟩) (v := ?_) rfl (by kernel_rfl) (by kernel_rfl) (by kernel_rfl) (fun _ _ _ h => h) (Or.inl ⟨by rfl, ?_⟩) (by assumption) ?_
  rotate_left
  · intro w hSw; go_simp; try with_reducible rfl
  try simp only [Act.put, List.setIfInBounds_toArray, List.set_cons_zero, List.set_cons_succ]
  refine wpAnyH_take (i := 3) (oi := ⟨some 11, _, _, _, _, none⟩) (v := ?_) rfl (by kernel_rfl) (by kernel_rfl) (by kernel_rfl) (fun _ _ _ h => h) (Or.inl ⟨by rfl, ?_⟩) (by assumption) ?_
  rotate_left
  · intro w hSw; go_simp; try with_reducible rfl
  try simp only [Act.put, List.setIfInBounds_toArray, List.set_cons_zero, List.set_cons_succ]
  refine wpAnyH_take (i := 4) (oi := ⟨some 12, _, _, _, _, none⟩) (v := ?_) rfl (by kernel_rfl) (by kernel_rfl) (by kernel_rfl) (fun _ _ _ h => h) (Or.inl ⟨by rfl, ?_⟩) (by assumption) ?_
  rotate_left
  · intro w hSw; go_simp; try with_reducible rfl
  try simp only [Act.put, List.setIfInBounds_toArray, List.set_cons_zero, List.set_cons_succ]
  refine wpAnyH_take (i := 6) (oi := ⟨some 14, _, _, _, _, none⟩) (v := ?_) rfl (by kernel_rfl) (by kernel_rfl) (by kernel_rfl) (fun _ _ _ h => h) (Or.inl ⟨by rfl, ?_⟩) (by assumption) ?_
  rotate_left
  · intro w hSw; go_simp; try with_reducible rfl
  try simp only [Act.put, List.setIfInBounds_toArray, List.set_cons_zero, List.set_cons_succ]
  refine wpAnyH_ready (rs := [5]) (by kernel_rfl) (by simp) ?_
  refine AllReadyH.cons (o := ⟨some 13, .load 32 (.tmp 12), _, _, _, none⟩) rfl (fun K hK => ?_) AllReadyH.nil
  refine step_ld1 32 (.tmp 12) (by rfl) (by rfl) (by rfl) (v := .int .u64 (nx : Int)) HX4.out Tryz.isAgg32 ?_
  refine hK.out _ _ (hHeld) (fun hHeld => ?_)
  clear hK K
  try simp only [Act.put, List.setIfInBounds_toArray, List.set_cons_zero, List.set_cons_succ]
  refine wpAnyH_ready (rs := [7]) (by kernel_rfl) (by simp) ?_
  refine AllReadyH.cons (o := ⟨some 15, _, _, _, _, none⟩) rfl (fun K hK => ?_) AllReadyH.nil
  go_simp
  refine (bytesOf_e nx t _ _ _ HKS.out (by omega) HVT.out ht).mono ?_
  rintro e w5 ⟨v5, rfl, ho5, hB5⟩
  obtain ⟨A5, c5, rfl⟩ := own_shape ho5
  have hL5 := HL.out.below hB5
  have hcl5 : (0 : Nat) < w5.heap.size := by have := hB5.size; have := HKS.out.lt; omega
  refine hK.out _ _ (hHeld.belowR hB5) (fun hHeld => ?_)
  clear hK K
  try simp only [Act.put, List.setIfInBounds_toArray, List.set_cons_zero, List.set_cons_succ]
  refine wpAnyH_ready (rs := [8]) (by kernel_rfl) (by simp) ?_
  refine AllReadyH.cons (o := ⟨some 16, _, _, _, _, none⟩) rfl (fun K hK => ?_) AllReadyH.nil
  go_simp
  refine (add_e2 x _ pre num n' sz nx s0 Md F _ D D' E (recF nx t) _ _ hL5 hs hp hn' hrl hs0 (Rd.of_own ho5) (fun y e e2 => by have e : w1.heap.size ≤ y := e; have := hbd1 y e2; omega) hcl5 hE hD').mono ?_
  clear hE hD'
  rintro e w6 ⟨rfl, num1, sz1, hn1, hn2, hP6⟩
  refine hK.out _ _ (hHeld.trans hP6.ch) (fun hHeld => ?_)
  clear hK K
  try simp only [Act.put, List.setIfInBounds_toArray, List.set_cons_zero, List.set_cons_succ]
  refine wpAnyH_take (i := 9) (oi := ⟨some 7, _, _, _, _, none⟩) (v := ?_) rfl (by kernel_rfl) (by kernel_rfl) (by kernel_rfl) (fun _ _ _ h => h) (Or.inl ⟨by rfl, ?_⟩) (by assumption) ?_
  rotate_left
  · intro w hSw; go_simp; try with_reducible rfl
  try simp only [Act.put, List.setIfInBounds_toArray, List.set_cons_zero, List.set_cons_succ]
  refine wpAnyH_done (by kernel_rfl) ?_ _
  refine NoPanic.normal ?_
  -- PUT end
  have hP := LSp.trans ((((Ch.of_below hB0).weaken (fun _ _ e => e.elim)).trans (((Ch.refl _ _).drew).belowR hB5 : Ch (fun b => Md b ∨ b = x) w1 w5))) (fun b e => .inl e) (fun b e => .inl e) hP6
  have hx6 : Blk w6 x 57 (lgL (.pointer (some ⟨xd, 0, none⟩)) pre num1 sz1 nx) := by obtain ⟨_, _, h, _⟩ := hP; exact h.b
  clear HG0 HKS HVT HL hHeld hP6 hL5 ho5 hB5 hL1 hv1 K1 g4 HX4
  by_cases hE0 : E = 0
  · subst hE0
    obtain ⟨rfl, rfl⟩ := hn1 rfl
    clear hn1 hn2
    have c4 := hx6.cellAt 4 _ rfl
    have hwn : IntKind.u64.wrap ((nx : Int) + 1) = (nx : Int) + 1 := IntWalk.u64_in _ (by omega)
    go_wp2_with (first | (refine wp_st1 32 (.tmp 26) (.tmp 24) rfl rfl rfl (b := x) (f := 4) rfl (v := .int .u64 ((nx : Int) + 1)) rfl hx6 (by simp [lgL]) (by kernel_rfl) rfl rfl ?_; intro w7 hx7 hG7; refine wp_stop ?_))
    refine wp_go ?_
    go_wp2
    go_ret
    refine ⟨rfl, _, _, nx + 1, ⟨rfl, rfl, rfl⟩, ?_⟩
    obtain ⟨M6, F6, hL6, hC6, hM6, hF6⟩ := hP
    have hcx : Ch (fun y => y = x) w6 w7 := (Ch.refl _ _).grow hG7 (fun k hk => .inl (by injection hk with hk; exact hk.symm))
    refine ⟨M6, F6, ⟨?_, hL6.i.keep (fun y hy e => hcx.block y hy (fun e2 => by have e2 : y = x := e2; rw [e2] at e; exact e.elim hL6.mx hL6.fx)) hcx.size, hL6.mx, hL6.fx, hL6.cm, hL6.xk⟩, hC6.transN hcx (fun y e => .inl (.inr e)), hM6, hF6⟩
    rw [show lgL (.pointer (some ⟨xd, 0, none⟩)) pre num1 (s0 + (recF nx t).length) (nx + 1) = (lgL (.pointer (some ⟨xd, 0, none⟩)) pre num1 (s0 + (recF nx t).length) nx).set 4 (.int .u64 ((nx : Int) + 1)) from by simp [lgL]]
    exact hx7
  · obtain ⟨rfl, rfl⟩ := hn2 hE0
    clear hn1 hn2
    go_wp2
    go_ret
    exact ⟨rfl, _, _, nx, fun h => absurd h hE0, fun _ => ⟨rfl, rfl, rfl⟩, hP⟩
/-- where the next record goes -/
def nxN (m sz : Nat) : Nat := if m = 0 ∨ 2048 ≤ sz then m + 1 else m
def nxS (m sz : Nat) : Nat := if m = 0 ∨ 2048 ≤ sz then 0 else sz
set_option maxRecDepth 100000 in
set_option maxHeartbeats 4000000 in
theorem append11_e (x m : Nat) (dv : Value) (pre : ByteArray) (sz nx : Nat) (Md F G : Nat → Prop) (D D' : Dk) (E : Int) (t : List UInt8) (vt : Value) (w : World) (hK : KS w) (hL : LS w x dv pre ⟨(digs m).toArray⟩ sz nx Md F D) (hs : DkSm D) (hp : pre.size ≤ 8) (hm : m < 10 ^ 10) (ht : t.length ≤ 1000000) (hsz : sz ≤ 1000000000000) (hnx : nx ≤ 1000000000) (hvt : Rd w G vt (bys t)) (hG : ∀ y, G y → y < w.heap.size)
    (hE : E = (doF D (acP (nameF pre (nxN m sz)) (recF nx t))).2) (hD' : D' = (doF D (acP (nameF pre (nxN m sz)) (recF nx t))).1) :
    Calls Tryz.prog 10 #[.pointer (some ⟨x, 0, none⟩), vt] w fun e w' => e = .returned (.int .i64 E) ∧ ∃ num1 sz1 nx1, (E = 0 → num1 = ⟨(digs (nxN m sz)).toArray⟩ ∧ sz1 = nxS m sz + (recF nx t).length ∧ nx1 = nx + 1) ∧ (E ≠ 0 → num1 = ⟨(digs m).toArray⟩ ∧ sz1 = sz ∧ nx1 = nx) ∧ LSp w w' x dv pre num1 sz1 nx1 Md F D' := by
  obtain ⟨At, ct, rfl⟩ := hvt.shape
  obtain ⟨xd, rfl⟩ := hL.i.ptr
  obtain ⟨num, hnum⟩ : ∃ num : ByteArray, num = ⟨(digs m).toArray⟩ := ⟨_, rfl⟩
  obtain ⟨n', hn'⟩ : ∃ n' : ByteArray, n' = ⟨(digs (nxN m sz)).toArray⟩ := ⟨_, rfl⟩
  obtain ⟨s0, hs0⟩ : ∃ s0, s0 = nxS m sz := ⟨_, rfl⟩
  have hnn : nameF pre (nxN m sz) = dotF pre ++ n' := by rw [hn']; rfl
  have hsz0 : s0 ≤ 1000000000000 := by rw [hs0]; unfold nxS; split <;> omega
  have hn9 : n'.size ≤ 900 := by
    rw [hn']
    show (digs (nxN m sz)).toArray.size ≤ 900
    have : (digs (nxN m sz)).length ≤ 11 := digs_len 11 _ (by unfold nxN; split <;> omega)
    simp
    omega
  rw [← hn', ← hnum, ← hs0]
  rw [hnn] at hE hD'
  clear hnn
  have hxl := hL.b.lt
  have hB0 : Below w.heap.size w (w.alloc (.cells #[.string num, .int .i64 (sz : Int)] 55)) := (Below.refl _ _).alloc (Nat.le_refl _) _
  have g5 := Blk.new' w 55 [.string num, .int .i64 (sz : Int)]
  obtain ⟨w1, hw1⟩ : ∃ w1, w1 = w.alloc (.cells #[.string num, .int .i64 (sz : Int)] 55) := ⟨_, rfl⟩
  obtain ⟨g, hg⟩ : ∃ g, g = w.heap.size := ⟨_, rfl⟩
  have K1 := hK.below hB0
  have hL0 := hL
  rw [← hnum] at hL0
  have hL1 := hL0.below hB0
  have hv1 := hvt.below hB0
  rw [← hw1] at hB0 g5 K1 hL1 hv1
  rw [← hg] at g5
  have hgw : w.heap.size ≤ g := by omega
  have hbd := hL0.i.bd
  have c2 := hL0.b.cellAt 2 _ rfl
  have c3 := hL0.b.cellAt 3 _ rfl
  have q0 := g5.cellAt 0 _ rfl
  have q1 := g5.cellAt 1 _ rfl
  have hw1s := hB0.size
  by_cases hm0 : m = 0
  · have hmf : m = 0 ∨ 2048 ≤ sz := .inl hm0
    have hfr := fresh_e x m (.pointer (some ⟨xd, 0, none⟩)) pre sz nx w1 (by have h := hL1.b; rw [hnum] at h; exact h) hm
    have e1 : nxN m sz = m + 1 := by unfold nxN; rw [if_pos hmf]
    have e2 : s0 = 0 := by rw [hs0]; unfold nxS; rw [if_pos hmf]
    rw [← e1, ← hn'] at hfr
    have Hfr := hid hfr
    have ht0 : num.toList = [] := by rw [hnum, hm0, digs_zero, ba_toList]
    clear hfr e1 hmf hn' hs0 hnum hm0
    subst e2
    go_enter Tryz.func10, Tryz.ntmps10
    go_wp2_with (fail)
    rw [← hw1, ← hg]
    refine Hfr.out.mono ?_
    rintro e w2 ⟨rfl, hB2⟩
    have g52 := g5.below hB2
    have hB02 := hB0.trans (hB2.mono hw1s)
    have K2 := K1.below hB2
    have hL2 := hL1.below hB2
    have hv2 := (hv1.weak (F' := fun b => b < w.heap.size) (fun b _ e => hG b e)).below hB2
    clear Hfr g5 K1 hL1 hv1 hB2 hB0 q0 q1 hw1 hg hL hL0
    go_wp2_with (first | (refine wp_st 55 (.tmp 5) (.tmp 21) rfl rfl rfl (b := g) (f := 0) rfl (l := [.string n', .int .i64 0]) rfl g52 (by simp) sizeSeg one_seg ?_; intro w3 hb3 hG3; refine wp_stop ?_))
    have hb3 : Blk w3 g 55 [.string n', .int .i64 ((0 : Nat) : Int)] := hb3
    have p0 := hb3.cellAt 0 _ rfl
    have p1 := hb3.cellAt 1 _ rfl
    have hcg : Ch (fun y => y = g) w2 w3 := (Ch.refl _ _).grow hG3 (fun k hk => .inl (by injection hk with hk; exact hk.symm))
    have K3 : KS w3 := K2.keep (hcg.block _ K2.lt (fun e => by have e : (0 : Nat) = g := e; have := hK.lt; omega))
    have hL3 := hL2.keep (w' := w3) (fun b hb e => hcg.block b hb (fun e2 => by
      have e2 : b = g := e2
      rcases e with e | e | e
      · omega
      · have := hbd b (.inl e); omega
      · have := hbd b (.inr e); omega)) hcg.size
    have hv3 := hv2.ch hcg (fun b e e2 => by have e2 : b = g := e2; omega)
    have hC3 : Ch (fun b => Md b ∨ b = x) w w3 := ((Ch.of_below hB02).weaken (fun _ _ e => e.elim)).transN hcg (fun y e => .inr (by have e : y = g := e; omega))
    clear hcg hG3 hb3 K2 hL2 hv2 hB02 g52
    refine wp_go ?_
    go_wp2_with (fail)
    refine (put_e x _ pre num n' sz nx 0 Md F _ D D' E t _ _ K3 hL3 hs hp hn9 ht hsz0 hnx hv3 hE hD').mono ?_
    rintro e w4 ⟨rfl, num1, sz1, nx1, h1, h2, hP⟩
    clear hE hD'
    go_wp2
    go_ret
    exact ⟨rfl, num1, sz1, nx1, h1, h2, LSp.trans hC3 (fun b e => .inl e) (fun b e => .inl e) hP⟩
  · have ht0 : ¬ num.toList = [] := by
      rw [hnum, ba_toList]
      exact (digs_head m hm0).1
    by_cases h20 : 2048 ≤ sz
    · have hmf : m = 0 ∨ 2048 ≤ sz := .inr h20
      have h20I : (2048 : Int) ≤ (sz : Int) := by omega
      have hfr := fresh_e x m (.pointer (some ⟨xd, 0, none⟩)) pre sz nx w1 (by have h := hL1.b; rw [hnum] at h; exact h) hm
      have e1 : nxN m sz = m + 1 := by unfold nxN; rw [if_pos hmf]
      have e2 : s0 = 0 := by rw [hs0]; unfold nxS; rw [if_pos hmf]
      rw [← e1, ← hn'] at hfr
      have Hfr := hid hfr
      clear hfr e1 hmf hn' hs0 hnum hm0
      subst e2
      go_enter Tryz.func10, Tryz.ntmps10
      go_wp2_with (fail)
      rw [← hw1, ← hg]
      refine Hfr.out.mono ?_
      rintro e w2 ⟨rfl, hB2⟩
      have g52 := g5.below hB2
      have hB02 := hB0.trans (hB2.mono hw1s)
      have K2 := K1.below hB2
      have hL2 := hL1.below hB2
      have hv2 := (hv1.weak (F' := fun b => b < w.heap.size) (fun b _ e => hG b e)).below hB2
      clear Hfr g5 K1 hL1 hv1 hB2 hB0 q0 q1 hw1 hg hL hL0
      go_wp2_with (first | (refine wp_st 55 (.tmp 5) (.tmp 21) rfl rfl rfl (b := g) (f := 0) rfl (l := [.string n', .int .i64 0]) rfl g52 (by simp) sizeSeg one_seg ?_; intro w3 hb3 hG3; refine wp_stop ?_))
      have hb3 : Blk w3 g 55 [.string n', .int .i64 ((0 : Nat) : Int)] := hb3
      have p0 := hb3.cellAt 0 _ rfl
      have p1 := hb3.cellAt 1 _ rfl
      have hcg : Ch (fun y => y = g) w2 w3 := (Ch.refl _ _).grow hG3 (fun k hk => .inl (by injection hk with hk; exact hk.symm))
      have K3 : KS w3 := K2.keep (hcg.block _ K2.lt (fun e => by have e : (0 : Nat) = g := e; have := hK.lt; omega))
      have hL3 := hL2.keep (w' := w3) (fun b hb e => hcg.block b hb (fun e2 => by
        have e2 : b = g := e2
        rcases e with e | e | e
        · omega
        · have := hbd b (.inl e); omega
        · have := hbd b (.inr e); omega)) hcg.size
      have hv3 := hv2.ch hcg (fun b e e2 => by have e2 : b = g := e2; omega)
      have hC3 : Ch (fun b => Md b ∨ b = x) w w3 := ((Ch.of_below hB02).weaken (fun _ _ e => e.elim)).transN hcg (fun y e => .inr (by have e : y = g := e; omega))
      clear hcg hG3 hb3 K2 hL2 hv2 hB02 g52
      refine wp_go ?_
      go_wp2_with (fail)
      refine (put_e x _ pre num n' sz nx 0 Md F _ D D' E t _ _ K3 hL3 hs hp hn9 ht hsz0 hnx hv3 hE hD').mono ?_
      rintro e w4 ⟨rfl, num1, sz1, nx1, h1, h2, hP⟩
      clear hE hD'
      go_wp2
      go_ret
      exact ⟨rfl, num1, sz1, nx1, h1, h2, LSp.trans hC3 (fun b e => .inl e) (fun b e => .inl e) hP⟩
    · have hmf : ¬ (m = 0 ∨ 2048 ≤ sz) := by rintro (h | h); exact hm0 h; exact h20 h
      have h20I : ¬ (2048 : Int) ≤ (sz : Int) := by omega
      have h20d : decide ((2048 : Int) ≤ (sz : Int)) = false := decide_eq_false h20I
      have hte : num.toList.isEmpty = false := by cases h : num.toList with | nil => exact absurd h ht0 | cons => rfl
      clear h20I ht0
      have e1 : nxN m sz = m := by unfold nxN; rw [if_neg hmf]
      have e2 : s0 = sz := by rw [hs0]; unfold nxS; rw [if_neg hmf]
      have e3 : n' = num := by rw [hn', hnum, e1]
      clear e1 hmf hn' hs0 hnum hm0
      subst e2 e3
      go_enter Tryz.func10, Tryz.ntmps10
      go_wp2_with (fail)
      rw [← hw1, ← hg]
      have K3 := K1
      have hL3 := hL1
      have hv3 := hv1
      have hC3 : Ch (fun b => Md b ∨ b = x) w w1 := (Ch.of_below hB0).weaken (fun _ _ e => e.elim)
      clear g5 K1 hL1 hv1 hB0 hw1 hg hL hL0
      refine (put_e x _ pre n' n' s0 nx s0 Md F _ D D' E t _ _ K3 hL3 hs hp hn9 ht hsz0 hnx hv3 hE hD').mono ?_
      rintro e w4 ⟨rfl, num1, sz1, nx1, h1, h2, hP⟩
      clear hE hD'
      go_wp2
      go_ret
      exact ⟨rfl, num1, sz1, nx1, h1, h2, LSp.trans hC3 (fun b e => .inl e) (fun b e => .inl e) hP⟩
end Go.Proofs.YtcechioeolokcaaGreatDoor
