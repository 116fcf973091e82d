/- AV: several texts in one (XV Xd Ck Z2 Xk Xw U0 W5 W8 A0 AV). -/
import Derived.Test.YtnhhbbjkeekneaaGreatDoorNC
import Derived.Test.YtnhhbbjkeekneaaGreatDoorXz
import Derived.Test.YtnhhbbjkeekneaaGreatDoorZx
import Derived.Test.YtnhhbbjkeekneaaGreatDoorCB
import Derived.Test.YtnhhbbjkeekneaaGreatDoorS3
import Derived.Test.YtnhhbbjkeekneaaGreatDoorZC
import Derived.Test.YtnhhbbjkeekneaaGreatDoorOT
import Derived.Test.YtnhhbbjkeekneaaGreatDoorYC
import Derived.Test.YtnhhbbjkeekneaaGreatDoorCo
import Derived.Test.YtnhhbbjkeekneaaGreatDoorCq
import Derived.Test.YtnhhbbjkeekneaaGreatDoorVA
import Derived.Test.YtnhhbbjkeekneaaGreatDoorM1
import Derived.Test.YtnhhbbjkeekneaaGreatDoorQ7
import Derived.Test.YtnhhbbjkeekneaaGreatDoorLW
/- XV: layer 19: the contracts of stops.Valid (Xo) and stops.Choose (Xz), in one place. -/
namespace Go.Proofs.YtnhhbbjkeekneaaGreatDoor
end Go.Proofs.YtnhhbbjkeekneaaGreatDoor
/- Xd: layer 19, pure: what a choice tells of each part. No project text. -/
namespace Go.Proofs.YtnhhbbjkeekneaaGreatDoor
open Go.RowKit Go.V
theorem fol_lenD (l : List To) : (folC l).d.length = 32 := by
  unfold folC
  split
  · rfl
  · split
    · rfl
    · split
      · rfl
      · rename_i s _
        exact s.hh
theorem cho_len (ks : List (List UInt8)) (R : List Hx) (V : Vc) (first reg : Int) (P : List (List UInt8)) : (choC ks R V first reg P).1.d.length = 32 := by
  unfold choC
  split
  · rfl
  · split
    · rfl
    · exact fol_lenD _
theorem tk_pos {ks : List (List UInt8)} {R : List Hx} {V : Vc} {first reg : Int} : ∀ {P : List (List UInt8)} {a : List To} {e : Int}, tkC ks R V first reg a P = .error e → e ≠ 0
  | [], a, e, h => by cases h
  | X :: P, a, e, h => by
    unfold tkC at h
    split at h
    · rename_i e' he
      injection h with h
      have := opof_pos he
      omega
    · split at h
      · injection h with h; omega
      · split at h
        · injection h with h; omega
        · split at h
          · rename_i hv
            injection h with h
            rw [← h]
            exact hv
          · exact tk_pos h
theorem cho_ok {ks : List (List UInt8)} {R : List Hx} {V : Vc} {first reg : Int} {P : List (List UInt8)} (h : (choC ks R V first reg P).2 = 0) : ∃ l, tkC ks R V first reg [] P = .ok l ∧ (choC ks R V first reg P).1 = folC l := by
  revert h
  unfold choC
  split
  · intro h; exact absurd h (by show (12 : Int) ≠ 0; omega)
  · split
    · rename_i e he
      intro h
      exact absurd h (tk_pos he)
    · rename_i l hl
      intro _
      exact ⟨l, hl, rfl⟩
/-- what each part tells, where a choice was made -/
theorem cho_each {ks : List (List UInt8)} {R : List Hx} {V : Vc} {first reg : Int} {P : List (List UInt8)} (h : (choC ks R V first reg P).2 = 0) {X : List UInt8} (hX : X ∈ P) : ∃ m, opR ks X = .ok m ∧ (valC ks R V first m).1 = 0 ∧ (valC ks R V first m).2.l ≤ (choC ks R V first reg P).1.l ∧ ((valC ks R V first m).2.l = (choC ks R V first reg P).1.l → (valC ks R V first m).2.h = true → (choC ks R V first reg P).1.h = true) := by
  obtain ⟨l, hl, hc⟩ := cho_ok h
  obtain ⟨m, h1, h2, h3⟩ := (tk_ok hl).2.2 X hX
  have h4 := fol_mem h3
  rw [hc]
  exact ⟨m, opof_op h1, h2, h4.1, h4.2⟩
end Go.Proofs.YtnhhbbjkeekneaaGreatDoor
/- Ck: layers 17 and 18: the laws' table of keys, as lists. -/
namespace Go.Proofs.YtnhhbbjkeekneaaGreatDoor
open Go.RowKit Go.V
def kU (i : Nat) : List (List UInt8) := (List.range i).map (fun j => [UInt8.ofNat j])
def ks17 : List (List UInt8) := kU 16
theorem kU_next (i : Nat) : kU (i + 1) = kU i ++ [[UInt8.ofNat i]] := by
  unfold kU
  rw [List.range_succ, List.map_append]
  rfl
theorem kU_len (i : Nat) : (kU i).length = i := by unfold kU; simp
theorem ks17_sm : KsSm ks17 := by
  refine ⟨by unfold ks17; rw [kU_len]; omega, fun k hk => ?_⟩
  unfold ks17 kU at hk
  obtain ⟨j, _, rfl⟩ := List.mem_map.1 hk
  show 1 ≤ 1000000
  omega
def zKs : List Value := [.slice none 0 0, .slice none 0 0]
theorem zeroKs17 : (Tryz.prog.info? 40).map (·.zero) = some (some (.agg zKs.toArray)) := by kernel_rfl
end Go.Proofs.YtnhhbbjkeekneaaGreatDoor
/- Z2: layer 9: wakes. -/
namespace Go.V
open Go.RowKit
end Go.V
namespace Go.Proofs.YtnhhbbjkeekneaaGreatDoor
open Go.RowKit Go.V
theorem errS_M {ks : List (List UInt8)} {m : Mg} (hh : m.h.length = 32) (hlo : longB m = false) : errS ks m = if errM m = 0 then (if (ks.length : Int) ≤ m.f then 6 else 0) else errM m := by
  unfold errS; rw [errG_M hh hlo]
end Go.Proofs.YtnhhbbjkeekneaaGreatDoor
/- Xk: layer 19: the laws' keys, and long. -/
namespace Go.Proofs.YtnhhbbjkeekneaaGreatDoor
open Go.RowKit Go.V
theorem bldK19 (A : Option Addr) (n c : Nat) : ∀ W : World, (Instr.build 40 [(1, .slice A n c)].toArray).run Tryz.prog W = .ok (.agg #[.slice none 0 0, .slice A n c]) W := by intro W; kernel_rfl
theorem sizeSk19 : (Tryz.prog.info? 28).map (·.size) = some 1 := by kernel_rfl
theorem sizeKs19 : (Tryz.prog.info? 40).map (·.size) = some 2 := by kernel_rfl
set_option maxRecDepth 100000 in
set_option maxHeartbeats 4000000 in
theorem keys19_any (a0 a1 a2 a3 : Value) (A0 : Option Addr) (n0 c0 : Nat) (w : World) :
    Calls Tryz.prog 8 #[.agg #[a0, a1, a2, a3, .slice A0 n0 c0]] w fun e w' => ∃ uk, e = .returned (.agg #[uk, .slice A0 n0 c0]) ∧ Rd w' (fun b => w.heap.size ≤ b) uk (tx ks17) ∧ Below w.heap.size w w' := by
  obtain ⟨W0, hW0, b1, b0, hB⟩ := alloc2 w 27 40 [a0, a1, a2, a3, .slice A0 n0 c0] zKs
  have hbk := bldK19 A0 n0 c0
  go_enter Tryz.func8, Tryz.ntmps8
  go_wp2_with (first | (refine wp_new 40 rfl rfl zeroKs17 ?_; refine wp_stop ?_))
  first | rw [← hW0] | (simp only [List.toArray] at hW0 ⊢; rw [← hW0])
  have hs0 : W0.heap.size = w.heap.size + 1 + 1 := by rw [hW0]; simp
  clear hW0
  obtain ⟨g2, hg2⟩ : ∃ g, g = w.heap.size + 1 := ⟨_, rfl⟩
  rw [← hg2] at b0 hs0
  first | rw [← hg2] | skip
  obtain ⟨g1, hg1⟩ : ∃ g, g = w.heap.size := ⟨_, rfl⟩
  rw [← hg1] at b1 ⊢
  have hw2 : w.heap.size ≤ g2 := by omega
  have h2s : g2 < W0.heap.size := by omega
  have c4 := b1.cellAt 4 _ rfl
  clear hg1 hg2 hs0
  refine wp_go ?_
  go_wp2_with (first | refine wp_bld 40 [(1, .tmp 6)] rfl rfl [(1, .slice A0 n0 c0)] rfl hbk ?_ | (refine wp_newst 40 3 (.tmp 7) rfl rfl rfl rfl rfl rfl zeroKs17 (l := [.slice none 0 0, .slice A0 n0 c0]) rfl rfl sizeKs19 (by intro v hv; simp at hv; rcases hv with rfl | rfl <;> rfl) (by simp [Act.put]) ?_; intro w1 b3 hB1 hs1; refine wp_stop ?_))
  have b0 := b0.below hB1
  have hB := hB.trans (hB1.mono hB.size)
  have hsz1 := hB1.size
  obtain ⟨g3, hg3⟩ : ∃ g, g = W0.heap.size := ⟨_, rfl⟩
  rw [← hg3] at b3 h2s hsz1 hs1 ⊢
  have hl3 := b3.lt
  have hOT := OT.nil w1 33 w1.heap.size nob
  clear hg3 hB1 c4 b1 hbk hs1
  refine wp_go ?_
  go_wp2
  go_loopw [8] (fun iv wr => ∃ (i : Nat) (uk : Value) (us : List Value), i ≤ 16 ∧ iv = .int .i64 i ∧ Blk wr g3 40 [uk, .slice A0 n0 c0] ∧ Blk wr g2 40 zKs ∧ OT wr 33 w1.heap.size nob uk (kU i) us ∧ w1.heap.size ≤ wr.heap.size ∧ Below w.heap.size w wr) (fun i _ => 16 - (intOf i).toNat)
  case atStart => exact ⟨0, _, [], by omega, rfl, b3, b0, hOT, Nat.le_refl _, hB⟩
  case round =>
    clear b3 b0 hOT hB
    obtain ⟨i, uk, us, hi, rfl, b3, b0, hOT, hsz, hB⟩ := hrel
    by_cases hlt : i < 16
    · have hI : (i : Int) < 16 := by omega
      have hw8 : IntKind.u8.wrap (i : Int) = (i : Int) := by rw [IntKind.wrap_u8]; omega
      have c0 := b3.cellAt 0 _ rfl
      have hkl := kU_len i
      have Hnx := hid (kU_next i)
      go_wp2_with (first | (refine wp_bsl slB (.tmp 14) rfl rfl (u := .int .u8 (i : Int)) rfl rfl ?_; intro w2 b2 hB2; refine wp_stop ?_))
      have b2 : Blk w2 wr.heap.size 5 [byteV (UInt8.ofNat i)] := by
        have e : byteV (UInt8.ofNat i) = .int .u8 (i : Int) := by
          show (Value.int .u8 ((UInt8.ofNat i).toNat : Int)) = _
          rw [UInt8.toNat_ofNat_of_lt' (by show i < 256; omega)]
        rw [e]; exact b2
      have hrow : ∀ b, uk.ownBlock = some b → w1.heap.size ≤ b ∧ b < wr.heap.size := fun b h => hOT.own.lt b h
      obtain ⟨g9, hg9⟩ : ∃ g, g = wr.heap.size := ⟨_, rfl⟩
      rw [← hg9] at b2 hsz hrow ⊢
      have hu := rd_one (F := fun b => w1.heap.size ≤ b ∧ ¬ nob b ∧ uk.ownBlock ≠ some b) b2 ⟨hsz, fun h => h, fun h => by have := hrow _ h; omega⟩
      have hOT := hOT.ch (Ch.of_below hB2) (fun b hb => hb.elim)
      have b3 := b3.below hB2
      have b0 := b0.below hB2
      have hB := hB.trans (hB2.mono hB.size)
      have hs2 := b2.lt
      have c0 := b3.cellAt 0 _ rfl
      clear hB2 hg9
      refine wp_go ?_
      go_wp2_with (first | (refine wp_push (.tmp 12) (.tmp 15) 16 slBB8 rfl rfl rfl rfl rfl (u := .slice (some ⟨g9, 0, none⟩) 1 1) rfl rfl rfl (by simp) rfl hOT.own (by rw [hkl]; simp only [maxLen]; omega) (by rw [hkl]; omega) (by omega) ?_; intro v3 w3 ho3 hG3 hd3; refine wp_stop ?_))
      have hOT := OT.pushG hOT hu (fun b h => h.elim) ho3 hG3 hd3
      have b3 := b3.keep (hG3.block _ b3.lt (by intro e; have := hrow _ e.symm; omega))
      have b0 := b0.keep (hG3.block _ b0.lt (by intro e; have := hrow _ e.symm; omega))
      have hB := hB.grown hG3 hB.size (fun k hk => by have := hrow _ hk; have := hB.size; omega)
      have hs3 := hG3.size
      obtain ⟨A3, c3, rfl⟩ := own_shape ho3
      clear hG3 ho3 hd3 hu c0
      refine wp_go ?_
      go_wp2_with (first | (refine wp_st1 28 (.tmp 18) (.tmp 17) rfl rfl rfl (f := 0) rfl (v := .slice A3 ((kU i).length + 1) c3) rfl b3 (by show 0 < 2; omega) sizeSk19 rfl rfl ?_; intro w4 b3 G4; refine wp_stop ?_))
      have hOT := hOT.ch (G := fun b => b = g3) ((Ch.refl _ _).grow G4 (fun k hk => by injection hk with hk; exact .inl hk.symm)) (fun b hb => .inr (by omega))
      have b0 := b0.keep (G4.block _ b0.lt (by intro e; injection e with e; omega))
      have hB := hB.grown G4 hB.size (fun k hk => by injection hk with hk; omega)
      have hs4 := G4.size
      rw [← Hnx.out] at hOT
      refine wp_go ?_
      go_wp2
      go_roundw
      case rel => exact ⟨i + 1, _, _, by omega, by go_num, b3, b0, hOT, by omega, hB⟩
      case measure => simp [intOf]; omega
    · have hi' : i = 16 := by omega
      subst hi'
      have hI : ¬ (16 : Int) < 16 := by omega
      have hrd : Rd wr (fun b => w1.heap.size ≤ b) uk (tx ks17) := hOT.rd
      obtain ⟨Ak, ck, rfl⟩ := own_shape hOT.own
      go_wp2_with (first | refine wp_ld 40 (.tmp 3) rfl rfl rfl b3.whole Tryz.underlying40 rfl sizeKs19 ?_ | (refine wp_st 40 (.tmp 2) (.tmp 20) rfl rfl rfl (f := 0) rfl (l := [.slice Ak (kU 16).length ck, .slice A0 n0 c0]) rfl b0 (by show 0 + 2 ≤ 2; omega) sizeKs19 (by intro v hv; simp at hv; rcases hv with rfl | rfl <;> rfl) ?_; intro w5 k0 G5; refine wp_stop ?_))
      rw [set_all zKs [.slice Ak (kU 16).length ck, .slice A0 n0 c0] rfl] at k0
      have hrd := hrd.keep (F' := fun b => w.heap.size ≤ b) (fun b hb hF => ⟨by have hF : w1.heap.size ≤ b := hF; omega, G5.block b hb (by have hF : w1.heap.size ≤ b := hF; intro e; injection e with e; omega)⟩)
      have hB := hB.grown G5 hB.size (fun k hk => by injection hk with hk; omega)
      refine wp_go ?_
      go_wp2
      refine ret_cell rfl rfl k0.whole Tryz.underlying40 rfl sizeKs19 rfl ?_
      exact ⟨_, rfl, hrd, hB⟩
def longS (P : List (List UInt8)) : Bool := decide (24 < P.length ∨ ∃ t ∈ P, 6000 < t.length)
theorem longS_bd {P : List (List UInt8)} (h : longS P = false) : P.length ≤ 24 ∧ ∀ t ∈ P, t.length ≤ 6000 := by
  unfold longS at h
  rw [decide_eq_false_iff_not] at h
  refine ⟨by omega, fun t ht => ?_⟩
  rcases Nat.lt_or_ge 6000 t.length with h3 | h3
  · exact absurd (.inr ⟨t, ht, h3⟩) h
  · exact h3
set_option maxRecDepth 100000 in
set_option maxHeartbeats 2000000 in
theorem long19_any (ks : List (List UInt8)) (uk : Value) (F : Nat → Prop) (w : World) (hk : Rd w F uk (tx ks)) :
    Calls Tryz.prog 6 #[uk] w fun e w' => e = .returned (.bool (longS ks)) ∧ Below w.heap.size w w' := by
  obtain ⟨A, c, rfl, hcc, hcm⟩ := hk.slShape
  have hcl : ks.length ≤ 9223372036854775807 := by simp [maxLen] at hcm; omega
  go_enter Tryz.func6, Tryz.ntmps6
  by_cases h1 : 24 < ks.length
  · have h1I : (24 : Int) < (ks.length : Int) := by omega
    have hL : Hid (longS ks = true) := decide_eq_true (.inl h1)
    go_wp2
    go_ret
    exact ⟨by rw [hL.out]; rfl, Below.refl _ _⟩
  have h1I : ¬ (24 : Int) < (ks.length : Int) := by omega
  go_wp2
  go_loopw [9] (fun iv wr => ∃ i : Nat, i ≤ ks.length ∧ iv = .int .i64 i ∧ Hid (∀ j t, j < i → ks[j]? = some t → t.length ≤ 6000) ∧ Below w.heap.size w wr) (fun i _ => ks.length - (intOf i).toNat)
  case atStart => exact ⟨0, Nat.zero_le _, rfl, fun j t hj => absurd hj (Nat.not_lt_zero _), Below.refl _ _⟩
  case round =>
    obtain ⟨i, hi, rfl, hall, hBr⟩ := hrel
    by_cases hlt : i < ks.length
    · obtain ⟨t, ht⟩ : ∃ t, ks[i]? = some t := ⟨_, List.getElem?_eq_getElem hlt⟩
      have hI : (i : Int) < (ks.length : Int) := by omega
      obtain ⟨G, off, u, rfl, hG, hcu, hu⟩ := Rd.elem (hk.below hBr) i (bys t) (by rw [List.getElem?_map, ht]; rfl)
      obtain ⟨A1, c1, rfl⟩ := hu.shape
      have Ht := hid ht
      clear ht
      by_cases h2 : 6000 < t.length
      · have h2I : (6000 : Int) < (t.length : Int) := by omega
        have hL : Hid (longS ks = true) := decide_eq_true (.inr ⟨t, List.mem_of_getElem? Ht.out, h2⟩)
        go_wp2
        go_ret
        exact ⟨by rw [hL.out]; rfl, hBr⟩
      · have h2I : ¬ (6000 : Int) < (t.length : Int) := by omega
        go_wp2
        go_roundw
        case rel => exact ⟨i + 1, by omega, by go_num, fun j x hj hx => by
          rcases Nat.lt_or_ge j i with h | h
          · exact hall.out j x h hx
          · have : j = i := by omega
            subst this
            rw [Ht.out] at hx
            injection hx with hx
            subst hx
            omega, hBr⟩
        case measure => simp [intOf]; omega
    · have hi' : i = ks.length := by omega
      subst hi'
      have hI : ¬ (ks.length : Int) < (ks.length : Int) := by omega
      have hL : Hid (longS ks = false) := decide_eq_false (by
        rintro (h | ⟨t, ht, h⟩)
        · omega
        · obtain ⟨j, hj, he⟩ := List.mem_iff_getElem.1 ht
          have := hall.out j t hj (by rw [List.getElem?_eq_getElem hj, he])
          omega)
      go_wp2
      go_ret
      exact ⟨by rw [hL.out]; rfl, hBr⟩
/-- nothing asked -/
def zAsk : List Value := [.int .i64 0, .int .u16 0, .int .i64 0, .int .i64 0, .slice none 0 0]
theorem bldA19 : ∀ W : World, (Instr.build 27 [].toArray).run Tryz.prog W = .ok (.agg zAsk.toArray) W := fun _ => by kernel_rfl
end Go.Proofs.YtnhhbbjkeekneaaGreatDoor
/- Xw: layer 19, pure: what the laws' wakes tell. No project text. -/
namespace Go.Proofs.YtnhhbbjkeekneaaGreatDoor
open Go.RowKit Go.V
def mS (i : Nat) : Mg := ⟨4, (i : Int), 0, 2 + (i : Int), 0, List.replicate 32 0, [], []⟩
theorem mS_in {i : Nat} (h : i < 2) : MgIn (mS i) := ⟨by show in64w 4; unfold in64w; omega, by show in64w (i : Int); unfold in64w; omega, by show in64w 0; unfold in64w; omega, by show in64w (2 + (i : Int)); unfold in64w; omega, by show in64w 0; unfold in64w; omega, rfl⟩
theorem mS_sm (i : Nat) : MgSm (mS i) := ⟨by show 0 ≤ 1000000; omega, by show 0 ≤ 1000; omega, by intro t ht; cases ht⟩
theorem mS_err {i : Nat} (h : i < 2) : errS ks17 (mS i) = 0 := by
  match i, h with
  | 0, _ => rw [errS_M rfl (by decide)]; decide
  | 1, _ => rw [errS_M rfl (by decide)]; decide
  | i + 2, h => exact absurd h (by omega)
def sS19 (i : Nat) : List UInt8 := slS ks17 (mS i)
theorem sS19_len {i : Nat} (h : i < 2) : (sS19 i).length ≤ 100 := by
  unfold sS19 slS
  rw [List.length_append, len_tag, len_by2 rfl]
  match i, h with
  | 0, _ => decide
  | 1, _ => decide
  | i + 2, h => exact absurd h (by omega)
theorem has19 (i : Nat) (h : i < 2) : hasB 15 (i : Int) = true := by
  unfold hasB
  rw [Bool.and_eq_true, decide_eq_true_eq, Int.toNat_natCast]
  refine ⟨by omega, ?_⟩
  have : ∀ j : Fin 2, mbit 15 j.val = true := by decide +kernel
  exact this ⟨i, h⟩
theorem op_W19 {i : Nat} (h : i < 2) : opOf ks17 ⟨0, 15⟩ (sS19 i) = .ok (mS i) := by
  have h1 := op_sl (ks := ks17) (m := mS i) rfl (mS_err h)
  have hb : hasB 15 (mS i).f = true := has19 i h
  unfold opOf sS19
  rw [h1]
  exact if_pos hb
/-- who wants what behind i of them -/
def wS (i : Nat) : List Nat := match i with
  | 0 => w0W
  | 1 => w0W.set 0 3
  | _ => (w0W.set 0 3).set 1 4
theorem ts_W19 {i : Nat} (h : i < 2) : tsE ks17 ⟨0, 15⟩ (wS i) (sS19 i) = 0 ∧ tsW ks17 ⟨0, 15⟩ (wS i) (sS19 i) = wS (i + 1) := by
  unfold tsE tsW
  rw [op_W19 h]
  match i, h with
  | 0, _ => exact ⟨by decide, by decide⟩
  | 1, _ => exact ⟨by decide, by decide⟩
  | i + 2, h => exact absurd h (by omega)
theorem gr_W19 : grW (wS 2) 0 (somN 0 15) = 2 ∧ grW (wS 2) 0 (enoN 0 15) = -1 ∧ cntW (wS 2) 3 = 1 := by
  refine ⟨by decide +kernel, by decide +kernel, by decide +kernel⟩
end Go.Proofs.YtnhhbbjkeekneaaGreatDoor
/- U0: layer 14, pure: the service's values as lists, what an op comes to, their text. No project text. -/
namespace Go.V
open Go.RowKit
structure Cl where
  t : Bool
  n : Int
structure Ok where
  k : Int
  y : Int
  a : Int
  b : Int
def Cl.l (c : Cl) : List Value := [.bool c.t, .int .i64 c.n]
def Ok.l (o : Ok) : List Value := [.int .i64 o.k, .int .i64 o.y, .int .i64 o.a, .int .i64 o.b]
def cvs (c : List Cl) : List Value := c.flatMap Cl.l
def nmC (c : Cl) : Option Int := if c.t = true then some c.n else none
/-- what counts of values -/
def nmF (c : List Cl) : List (Option Int) := c.map nmC
def goodK (o : Ok) : Prop := (0 ≤ o.y ∧ o.y ≤ 15) ∧ 1 ≤ o.k ∧ o.k ≤ 5
instance (o : Ok) : Decidable (goodK o) := by unfold goodK; exact inferInstance
/-! the text -/
end Go.V
/- W5: layer 6: wakes, same, the law ViewsCounts. -/
namespace Go.Proofs.YtnhhbbjkeekneaaGreatDoor
open Go.RowKit Go.V
end Go.Proofs.YtnhhbbjkeekneaaGreatDoor
/- W8: layer 6: contracts of Next, by the program and by the document; the law ViewsNext. -/
namespace Go.Proofs.YtnhhbbjkeekneaaGreatDoor
open Go.RowKit Go.V
end Go.Proofs.YtnhhbbjkeekneaaGreatDoor
/- A0: layer 15, pure: worlds, what a batch does. No project text. -/
namespace Go.Proofs.YtnhhbbjkeekneaaGreatDoor
open Go.RowKit Go.V
/-- a reply -/
structure Rp where
  c : Int
  s : Int
  k : Int
  o : Bool
  n : Int
structure Vw where
  n : Int
  m : Nat
deriving DecidableEq
/-- a world -/
structure Wo where
  s : Int
  f : Int
  v : Vw
  u : Vw
  c : List Cl
  a : List Rp
def Rp.l (r : Rp) : List Value := [.int .i64 r.c, .int .i64 r.s, .int .i64 r.k, .bool r.o, .int .i64 r.n]
def Vw.l (x : Vw) : List Value := [.int .i64 x.n, .int .u16 (x.m : Int)]
def Wo.l (W : Wo) : List Value := [.int .i64 W.s, .int .i64 W.f, .int .i64 W.v.n, .int .u16 (W.v.m : Int), .int .i64 W.u.n, .int .u16 (W.u.m : Int)] ++ (cvs W.c ++ W.a.flatMap Rp.l)
/-- what counts of it -/
structure We where
  s : Int
  f : Int
  v : Vw
  u : Vw
  c : List (Option Int)
  a : List Rp
def Wo.e (W : Wo) : We := ⟨W.s, W.f, W.v, W.u, nmF W.c, W.a⟩
/-! sizes -/
/-! what was done isn't done again -/
/-! the view -/
end Go.Proofs.YtnhhbbjkeekneaaGreatDoor
/- AV: lists of one struct, guarded struct literals, lists of replies. No project text. -/
namespace Go.V
open Go.RowKit
end Go.V
namespace Go.Proofs.YtnhhbbjkeekneaaGreatDoor
open Go.RowKit Go.V
end Go.Proofs.YtnhhbbjkeekneaaGreatDoor
