/- Xs: several texts in one (Xk Xw U0 W5 W8 A0 AV Xs). -/
import Derived.Test.YtnhhbbjkeekneaaGreatDoorZ2
import Derived.Test.YtnhhbbjkeekneaaGreatDoorXa
import Derived.Test.YtnhhbbjkeekneaaGreatDoorYC
import Derived.Test.YtnhhbbjkeekneaaGreatDoorCo
import Derived.Test.YtnhhbbjkeekneaaGreatDoorCq
import Derived.Test.YtnhhbbjkeekneaaGreatDoorVA
import Derived.Test.YtnhhbbjkeekneaaGreatDoorM1
import Derived.Test.YtnhhbbjkeekneaaGreatDoorW4
import Derived.Test.YtnhhbbjkeekneaaGreatDoorQ1
import Derived.Test.YtnhhbbjkeekneaaGreatDoorQA
import Derived.Test.YtnhhbbjkeekneaaGreatDoorQH
set_option maxRecDepth 100000
set_option maxHeartbeats 16000000
namespace Go.Proofs.YtnhhbbjkeekneaaGreatDoor
open Go.RowKit Go.V
theorem bldK19 (A : Option Addr) (n c : Nat) : ∀ W : World, (Instr.build 40 [(1, .slice A n c)].toArray).run Tryz.prog W = .ok (.agg #[.slice none 0 0, .slice A n c]) W := by intro W; kernel_rfl
theorem sizeSk19 : (Tryz.prog.info? 28).map (·.size) = some 1 := by kernel_rfl
theorem sizeKs19 : (Tryz.prog.info? 40).map (·.size) = some 2 := by kernel_rfl
theorem keys19_any (a0 a1 a2 a3 : Value) (A0 : Option Addr) (n0 c0 : Nat) (w : World) :
 Calls Tryz.prog 8 #[.agg #[a0, a1, a2, a3, .slice A0 n0 c0]] w fun e w' => ∃ uk, e = .returned (.agg #[uk, .slice A0 n0 c0]) /\ Rd w' (fun b => w.heap.size <= b) uk (tx ks17) /\ Below w.heap.size w w' := by
 obtain ⟨W0, hW0, b1, b0, hB⟩ := alloc2 w 27 40 [a0, a1, a2, a3, .slice A0 n0 c0] zKs; have hbk := bldK19 A0 n0 c0; go_enter Tryz.func8, Tryz.ntmps8; go_wp2_with (first | (refine wp_new 40 rfl rfl zeroKs17 ?_; refine wp_stop ?_))
 first | rw [<- hW0] | (simp only [List.toArray] at hW0 |-; rw [<- hW0])
 have hs0 : W0.heap.size = w.heap.size + 1 + 1 := by rw [hW0]; simp
 clear hW0; obtain ⟨g2, hg2⟩ := nm (w.heap.size + 1); rw [<- hg2] at b0 hs0
 first | rw [<- hg2] | skip
 obtain ⟨g1, hg1⟩ := nm (w.heap.size); rw [<- hg1] at b1 |-; have hw2 : w.heap.size <= g2 := by omega
 have h2s : g2 < W0.heap.size := by omega
 have c4 := b1.cellAt 4 _ rfl; clear hg1 hg2 hs0; refine wp_go ?_; go_wp2_with (first | refine wp_bld 40 [(1, .tmp 6)] rfl rfl [(1, .slice A0 n0 c0)] rfl hbk ?_ | (refine wp_newst 40 3 (.tmp 7) rfl rfl rfl rfl rfl rfl zeroKs17 (l := [.slice none 0 0, .slice A0 n0 c0]) rfl rfl sizeKs19 (by intro v hv; simp at hv; rcases hv with rfl | rfl <;> rfl) (by simp [Act.put]) ?_; intro w1 b3 hB1 hs1; refine wp_stop ?_)); have b0 := b0.below hB1; have hB := hB.trans (hB1.mono hB.size); have hsz1 := hB1.size; obtain ⟨g3, hg3⟩ := nm (W0.heap.size); rw [<- hg3] at b3 h2s hsz1 hs1 |-; have hl3 := b3.lt; have hOT := OT.nil w1 33 w1.heap.size nob; clear hg3 hB1 c4 b1 hbk hs1; refine wp_go ?_; go_wp2
 go_loopw [8] (fun iv wr => ∃ (i : Nat) (uk : Value) (us : List Value), i <= 16 /\ iv = .int .i64 i /\ Blk wr g3 40 [uk, .slice A0 n0 c0] /\ Blk wr g2 40 zKs /\ OT wr 33 w1.heap.size nob uk (kU i) us /\ w1.heap.size <= wr.heap.size /\ Below w.heap.size w wr) (fun i _ => 16 - (intOf i).toNat)
 case atStart => exact ⟨0, _, [], by omega, rfl, b3, b0, hOT, Nat.le_refl _, hB⟩
 case round =>
  clear b3 b0 hOT hB; obtain ⟨i, uk, us, hi, rfl, b3, b0, hOT, hsz, hB⟩ := hrel; by_cases hlt : i < 16
  . have hI : (i : Int) < 16 := by omega
    have hw8 : IntKind.u8.wrap (i : Int) = (i : Int) := by rw [IntKind.wrap_u8]; omega
    have c0 := b3.cellAt 0 _ rfl; have hkl := kU_len i; have Hnx := hid (kU_next i); go_wp2_with (first | (refine wp_bsl slB (.tmp 14) rfl rfl (u := .int .u8 (i : Int)) rfl rfl ?_; intro w2 b2 hB2; refine wp_stop ?_))
    have b2 : Blk w2 wr.heap.size 5 [byteV (UInt8.ofNat i)] := by
     have e : byteV (UInt8.ofNat i) = .int .u8 (i : Int) := by
      show (Value.int .u8 ((UInt8.ofNat i).toNat : Int)) = _; rw [UInt8.toNat_ofNat_of_lt' (by show i < 256; omega)]
     rw [e]; exact b2
    have hrow : ∀ b, uk.ownBlock = some b -> w1.heap.size <= b /\ b < wr.heap.size := fun b h => hOT.own.lt b h; obtain ⟨g9, hg9⟩ := nm (wr.heap.size); rw [<- hg9] at b2 hsz hrow |-; have hu := rd_one (F := fun b => w1.heap.size <= b /\ ¬ nob b /\ uk.ownBlock ≠ some b) b2 ⟨hsz, fun h => h, fun h => by have := hrow _ h; omega⟩; have hOT := hOT.ch (Ch.of_below hB2) (fun b hb => hb.elim); have b3 := b3.below hB2; have b0 := b0.below hB2; have hB := hB.trans (hB2.mono hB.size); have hs2 := b2.lt; have c0 := b3.cellAt 0 _ rfl; clear hB2 hg9; refine wp_go ?_; go_wp2_with (first | (refine wp_push (.tmp 12) (.tmp 15) 16 slBB8 rfl rfl rfl rfl rfl (u := .slice (some ⟨g9, 0, none⟩) 1 1) rfl rfl rfl (by simp) rfl hOT.own (by rw [hkl]; simp only [maxLen]; omega) (by rw [hkl]; omega) (by omega) ?_; intro v3 w3 ho3 hG3 hd3; refine wp_stop ?_)); have hOT := OT.pushG hOT hu (fun b h => h.elim) ho3 hG3 hd3; have b3 := b3.keep (hG3.block _ b3.lt (by intro e; have := hrow _ e.symm; omega)); have b0 := b0.keep (hG3.block _ b0.lt (by intro e; have := hrow _ e.symm; omega)); have hB := hB.grown hG3 hB.size (fun k hk => by have := hrow _ hk; have := hB.size; omega); have hs3 := hG3.size; obtain ⟨A3, c3, rfl⟩ := own_shape ho3; clear hG3 ho3 hd3 hu c0; refine wp_go ?_; go_wp2_with (first | (refine wp_st1 28 (.tmp 18) (.tmp 17) rfl rfl rfl (f := 0) rfl (v := .slice A3 ((kU i).length + 1) c3) rfl b3 (by show 0 < 2; omega) sizeSk19 rfl rfl ?_; intro w4 b3 G4; refine wp_stop ?_)); have hOT := hOT.ch (G := fun b => b = g3) ((Ch.refl _ _).grow G4 (fun k hk => by injection hk with hk; exact .inl hk.symm)) (fun b hb => .inr (by omega)); have b0 := b0.keep (G4.block _ b0.lt (by intro e; injection e with e; omega)); have hB := hB.grown G4 hB.size (fun k hk => by injection hk with hk; omega); have hs4 := G4.size; rw [<- Hnx.out] at hOT; refine wp_go ?_; go_wp2
    go_roundw
    case rel => exact ⟨i + 1, _, _, by omega, by go_num, b3, b0, hOT, by omega, hB⟩
    case measure => simp [intOf]; omega
  . have hi' : i = 16 := by omega
    subst hi'; have hI : ¬ (16 : Int) < 16 := by omega
    have hrd : Rd wr (fun b => w1.heap.size <= b) uk (tx ks17) := hOT.rd; obtain ⟨Ak, ck, rfl⟩ := own_shape hOT.own; go_wp2_with (first | refine wp_ld 40 (.tmp 3) rfl rfl rfl b3.whole Tryz.underlying40 rfl sizeKs19 ?_ | (refine wp_st 40 (.tmp 2) (.tmp 20) rfl rfl rfl (f := 0) rfl (l := [.slice Ak (kU 16).length ck, .slice A0 n0 c0]) rfl b0 (by show 0 + 2 <= 2; omega) sizeKs19 (by intro v hv; simp at hv; rcases hv with rfl | rfl <;> rfl) ?_; intro w5 k0 G5; refine wp_stop ?_)); rw [set_all zKs [.slice Ak (kU 16).length ck, .slice A0 n0 c0] rfl] at k0; have hrd := hrd.keep (F' := fun b => w.heap.size <= b) (fun b hb hF => ⟨by have hF : w1.heap.size <= b := hF; omega, G5.block b hb (by have hF : w1.heap.size <= b := hF; intro e; injection e with e; omega)⟩); have hB := hB.grown G5 hB.size (fun k hk => by injection hk with hk; omega); refine wp_go ?_; go_wp2; refine ret_cell rfl rfl k0.whole Tryz.underlying40 rfl sizeKs19 rfl ?_; exact ⟨_, rfl, hrd, hB⟩
def longS (P : List (List UInt8)) : Bool := decide (24 < P.length \/ ∃ t ∈ P, 6000 < t.length)
theorem longS_bd {P : List (List UInt8)} (h : longS P = false) : P.length <= 24 /\ ∀ t ∈ P, t.length <= 6000 := by
 unfold longS at h; rw [decide_eq_false_iff_not] at h; refine ⟨by omega, fun t ht => ?_⟩; rcases Nat.lt_or_ge 6000 t.length with h3 | h3
 . exact absurd (.inr ⟨t, ht, h3⟩) h
 . exact h3
theorem long19_any (ks : List (List UInt8)) (uk : Value) (F : Nat -> Prop) (w : World) (hk : Rd w F uk (tx ks)) :
 Calls Tryz.prog 6 #[uk] w fun e w' => e = .returned (.bool (longS ks)) /\ Below w.heap.size w w' := by
 obtain ⟨A, c, rfl, hcc, hcm⟩ := hk.slShape; have hcl : ks.length <= 9223372036854775807 := by simp [maxLen] at hcm; omega
 go_enter Tryz.func6, Tryz.ntmps6; by_cases h1 : 24 < ks.length
 . have h1I : (24 : Int) < (ks.length : Int) := by omega
   have hL : Hid (longS ks = true) := decide_eq_true (.inl h1); go_wp2; go_ret; exact ⟨by rw [hL.out]; rfl, Below.refl _ _⟩
 have h1I : ¬ (24 : Int) < (ks.length : Int) := by omega
 go_wp2
 go_loopw [9] (fun iv wr => ∃ i : Nat, i <= ks.length /\ iv = .int .i64 i /\ Hid (∀ j t, j < i -> ks[j]? = some t -> t.length <= 6000) /\ Below w.heap.size w wr) (fun i _ => ks.length - (intOf i).toNat)
 case atStart => exact ⟨0, Nat.zero_le _, rfl, fun j t hj => absurd hj (Nat.not_lt_zero _), Below.refl _ _⟩
 case round =>
  obtain ⟨i, hi, rfl, hall, hBr⟩ := hrel; by_cases hlt : i < ks.length
  . obtain ⟨t, ht⟩ : ∃ t, ks[i]? = some t := ⟨_, List.getElem?_eq_getElem hlt⟩
    have hI : (i : Int) < (ks.length : Int) := by omega
    obtain ⟨G, off, u, rfl, hG, hcu, hu⟩ := Rd.elem (hk.below hBr) i (bys t) (by rw [List.getElem?_map, ht]; rfl); obtain ⟨A1, c1, rfl⟩ := hu.shape; have Ht := hid ht; clear ht; by_cases h2 : 6000 < t.length
    . have h2I : (6000 : Int) < (t.length : Int) := by omega
      have hL : Hid (longS ks = true) := decide_eq_true (.inr ⟨t, List.mem_of_getElem? Ht.out, h2⟩); go_wp2; go_ret; exact ⟨by rw [hL.out]; rfl, hBr⟩
    . have h2I : ¬ (6000 : Int) < (t.length : Int) := by omega
      go_wp2
      go_roundw
      case rel => exact ⟨i + 1, by omega, by go_num, fun j x hj hx => by
       rcases Nat.lt_or_ge j i with h | h
       . exact hall.out j x h hx
       . have : j = i := by omega
         subst this; rw [Ht.out] at hx; injection hx with hx
         subst hx; omega, hBr⟩
      case measure => simp [intOf]; omega
  . have hi' : i = ks.length := by omega
    subst hi'; have hI : ¬ (ks.length : Int) < (ks.length : Int) := by omega
    have hL : Hid (longS ks = false) := decide_eq_false (by
     rintro (h | ⟨t, ht, h⟩)
     . omega
     . obtain ⟨j, hj, he⟩ := List.mem_iff_getElem.1 ht; have := hall.out j t hj (by rw [List.getElem?_eq_getElem hj, he]); omega)
    go_wp2; go_ret; exact ⟨by rw [hL.out]; rfl, hBr⟩
def zAsk : List Value := [.int .i64 0, .int .u16 0, .int .i64 0, .int .i64 0, .slice none 0 0]
theorem bldA19 : ∀ W : World, (Instr.build 27 [].toArray).run Tryz.prog W = .ok (.agg zAsk.toArray) W := fun _ => by kernel_rfl
def mS (i : Nat) : Mg := ⟨4, (i : Int), 0, 2 + (i : Int), 0, List.replicate 32 0, [], []⟩
theorem mS_in {i : Nat} (h : i < 2) : MgIn (mS i) := ⟨by show in64w 4; unfold in64w; omega, by show in64w (i : Int); unfold in64w; omega, by show in64w 0; unfold in64w; omega, by show in64w (2 + (i : Int)); unfold in64w; omega, by show in64w 0; unfold in64w; omega, rfl⟩
theorem mS_sm (i : Nat) : MgSm (mS i) := ⟨by show 0 <= 1000000; omega, by show 0 <= 1000; omega, by intro t ht; cases ht⟩
theorem mS_err {i : Nat} (h : i < 2) : errS ks17 (mS i) = 0 := by
 match i, h with
 | 0, _ => rw [errS_M rfl (by decide)]; decide
 | 1, _ => rw [errS_M rfl (by decide)]; decide
 | i + 2, h => exact absurd h (by omega)
def sS19 (i : Nat) : List UInt8 := slS ks17 (mS i)
theorem sS19_len {i : Nat} (h : i < 2) : (sS19 i).length <= 100 := by
 unfold sS19 slS; rw [List.length_append, len_tag, len_by2 rfl]
 match i, h with
 | 0, _ => decide
 | 1, _ => decide
 | i + 2, h => exact absurd h (by omega)
theorem has19 (i : Nat) (h : i < 2) : hasB 15 (i : Int) = true := by
 unfold hasB; rw [Bool.and_eq_true, decide_eq_true_eq, Int.toNat_natCast]; refine ⟨by omega, ?_⟩; have : ∀ j : Fin 2, mbit 15 j.val = true := by decide +kernel
 exact this ⟨i, h⟩
theorem op_W19 {i : Nat} (h : i < 2) : opOf ks17 ⟨0, 15⟩ (sS19 i) = .ok (mS i) := by
 have h1 := op_sl (ks := ks17) (m := mS i) rfl (mS_err h); have hb : hasB 15 (mS i).f = true := has19 i h; unfold opOf sS19; rw [h1]; exact if_pos hb
def wS (i : Nat) : List Nat := match i with
 | 0 => w0W
 | 1 => w0W.set 0 3
 | _ => (w0W.set 0 3).set 1 4
theorem ts_W19 {i : Nat} (h : i < 2) : tsE ks17 ⟨0, 15⟩ (wS i) (sS19 i) = 0 /\ tsW ks17 ⟨0, 15⟩ (wS i) (sS19 i) = wS (i + 1) := by
 unfold tsE tsW; rw [op_W19 h]
 match i, h with
 | 0, _ => exact ⟨by decide, by decide⟩
 | 1, _ => exact ⟨by decide, by decide⟩
 | i + 2, h => exact absurd h (by omega)
theorem gr_W19 : grW (wS 2) 0 (somN 0 15) = 2 /\ grW (wS 2) 0 (enoN 0 15) = -1 /\ cntW (wS 2) 3 = 1 := by
 refine ⟨by decide +kernel, by decide +kernel, by decide +kernel⟩
end Go.Proofs.YtnhhbbjkeekneaaGreatDoor
namespace Go.V
open Go.RowKit
structure Cl where
 t : Bool
 n : Int
structure Ok where
 k : Int
 y : Int
 a : Int
 b : Int
def Cl.l (c : Cl) : List Value := [.bool c.t, .int .i64 c.n]
def Ok.l (o : Ok) : List Value := [.int .i64 o.k, .int .i64 o.y, .int .i64 o.a, .int .i64 o.b]
def cvs (c : List Cl) : List Value := c.flatMap Cl.l
def nmC (c : Cl) : Option Int := if c.t = true then some c.n else none
def nmF (c : List Cl) : List (Option Int) := c.map nmC
def goodK (o : Ok) : Prop := (0 <= o.y /\ o.y <= 15) /\ 1 <= o.k /\ o.k <= 5
instance (o : Ok) : Decidable (goodK o) := by unfold goodK; exact inferInstance
end Go.V
namespace Go.Proofs.YtnhhbbjkeekneaaGreatDoor
open Go.RowKit Go.V
structure Rp where
 c : Int
 s : Int
 k : Int
 o : Bool
 n : Int
structure Vw where
 n : Int
 m : Nat
deriving DecidableEq
structure Wo where
 s : Int
 f : Int
 v : Vw
 u : Vw
 c : List Cl
 a : List Rp
def Rp.l (r : Rp) : List Value := [.int .i64 r.c, .int .i64 r.s, .int .i64 r.k, .bool r.o, .int .i64 r.n]
def Vw.l (x : Vw) : List Value := [.int .i64 x.n, .int .u16 (x.m : Int)]
def Wo.l (W : Wo) : List Value := [.int .i64 W.s, .int .i64 W.f, .int .i64 W.v.n, .int .u16 (W.v.m : Int), .int .i64 W.u.n, .int .u16 (W.u.m : Int)] ++ (cvs W.c ++ W.a.flatMap Rp.l)
structure We where
 s : Int
 f : Int
 v : Vw
 u : Vw
 c : List (Option Int)
 a : List Rp
def Wo.e (W : Wo) : We := ⟨W.s, W.f, W.v, W.u, nmF W.c, W.a⟩
end Go.Proofs.YtnhhbbjkeekneaaGreatDoor
namespace Go.V
open Go.RowKit
end Go.V
namespace Go.Proofs.YtnhhbbjkeekneaaGreatDoor
open Go.RowKit Go.V
theorem bldV19 : ∀ W : World, (Instr.build 24 #[(1, .int .u16 15)]).run Tryz.prog W = .ok (.agg #[.int .i64 0, .int .u16 15]) W := fun _ => by kernel_rfl
theorem bldW19 (f r : Int) : ∀ W : World, (Instr.build 47 #[(0, .int .i64 4), (1, .int .i64 f), (3, .int .i64 r)]).run Tryz.prog W = .ok (.agg ((⟨4, f, 0, r, 0, List.replicate 32 0, [], []⟩ : Mg).l (.slice none 0 0) (.slice none 0 0)).toArray) W := fun _ => by kernel_rfl
theorem wakes19_any (w : World) (hK : KS w) :
 Calls Tryz.prog 5 #[] w fun e w' => e = .returned (.bool true) /\ Below w.heap.size w w' := by
 have hbv := bldV19; have hba := bldA19; have hkf := hid (fun Y => keys19_any (.int .i64 0) (.int .u16 0) (.int .i64 0) (.int .i64 0) none 0 0 Y); go_enter Tryz.func5, Tryz.ntmps5; go_wp2_with (refine wp_bld 27 [] rfl rfl [] rfl hba ?_); refine (hkf.out _).mono ?_; rintro e w1 ⟨uk, rfl, hk, hB⟩; obtain ⟨Ak, ck, rfl, _, _⟩ := hk.slShape; clear hba hkf; go_wp2_with (first | (refine wp_newst 40 1 (.tmp 7) rfl rfl rfl rfl rfl rfl zeroKs17 (l := [.slice Ak ks17.length ck, .slice none 0 0]) rfl rfl sizeKs19 (by intro v hv; simp at hv; rcases hv with rfl | rfl <;> rfl) (by simp) ?_; intro w2 b1 hB2 hs2; refine wp_stop ?_)); have hk2 := hk.below hB2; have hB2' := hB.trans (hB2.mono hB.size); have hs1 := hB.size; obtain ⟨g1, hg1⟩ := nm (w1.heap.size); rw [<- hg1] at b1 hs1 |-
 have Hin : Hid (Calls Tryz.prog 13 #[.agg #[.slice Ak ks17.length ck, .slice none 0 0], .agg #[.int .i64 0, .int .u16 15]] w2 fun e w' => ∃ v M, e = .returned v /\ SX w' v M (fun b => w.heap.size <= b /\ b < w2.heap.size) ks17 ⟨0, 15⟩ w0W /\ (∀ b, M b -> w2.heap.size <= b) /\ Below w2.heap.size w2 w') :=
  hid (snew19_any ks17 ⟨0, 15⟩ (.slice Ak ks17.length ck) (.slice none 0 0) _ w2 (hK.below hB2') ks17_sm hk2 ⟨by unfold in64w; decide, by decide⟩)
 obtain ⟨lk, hlk⟩ : ∃ l : List Value, l = [.slice Ak ks17.length ck, .slice none 0 0] := ⟨_, rfl⟩
 have Lk : Hid (lk.length = 2) := hid (by rw [hlk]; rfl); have Hlk := hid hlk; rw [<- hlk] at b1; have h12 := b1.lt; have B1 := hid b1; have HK2 := hid hk2; clear hlk hs2 hB2 hg1 hB hk; have hsz2 : w.heap.size <= w2.heap.size := hB2'.size; refine wp_go ?_; go_wp2_with (first | refine wp_ld 40 (.tmp 1) rfl rfl rfl b1.whole Tryz.underlying40 rfl (by rw [Lk.out]; exact sizeKs19) ?_ | refine wp_bld 24 [(1, .const (.int .u16 15))] rfl rfl [(1, .int .u16 15)] rfl hbv ?_); rw [Hlk.out]; refine (Hin.out).mono ?_; rintro e w3 ⟨xv, M0, rfl, hx, hM0, hB3⟩; have hM0 : ∀ b, M0 b -> w2.heap.size <= b := hM0; obtain ⟨N, hN⟩ : ∃ N : Nat -> Prop, N = fun b => w.heap.size <= b /\ b < w2.heap.size := ⟨_, rfl⟩
 rw [<- hN] at hx; have HB2 := hid hB2'; clear hN Hin hB2' hbv b1 hk2; go_wp2
 go_loopw [11] (fun iv wr => ∃ (i : Nat) (M : Nat -> Prop), i <= 2 /\ iv = .int .i64 i /\ Hid (SX wr xv M N ks17 ⟨0, 15⟩ (wS i) /\ ∀ b, M b -> w2.heap.size <= b) /\ Below w2.heap.size w2 wr) (fun i _ => 2 - (intOf i).toNat)
 case atStart => exact ⟨0, M0, by omega, rfl, hid ⟨hx, hM0⟩, hB3⟩
 case round =>
  clear hx hM0 hB3; obtain ⟨i, M, hi, rfl, Hx, hD⟩ := hrel; have hBr := HB2.out.trans (hD.mono hsz2); have hKr := hK.below hBr; have b1 := B1.out.below hD; by_cases hlt : i < 2
  . have hI : (i : Int) < 2 := by omega
    have hw : IntKind.i64.wrap (2 + (i : Int)) = 2 + (i : Int) := IntWalk.i64_in _ (by omega); have hsl := sS19_len hlt; have hbm := bldW19 (i : Int) (2 + (i : Int))
    have hse : Calls Tryz.prog 14 #[.agg #[.slice Ak ks17.length ck, .slice none 0 0], .agg ((⟨4, (i : Int), 0, 2 + (i : Int), 0, List.replicate 32 0, [], []⟩ : Mg).l (.slice none 0 0) (.slice none 0 0)).toArray] wr fun e w' => ∃ v', e = .returned (.tuple #[v', .int .i64 0]) /\ NewB wr w' v' (sS19 i) := by
     have := seal9_any ks17 (mS i) (.slice Ak ks17.length ck) (.slice none 0 0) (.slice none 0 0) (.slice none 0 0) _ nob nob wr hKr (mS_in hlt) (mS_sm i) ks17_sm (HK2.out.below hD) (Rd.nil _ _) (Rd.nil _ _); rw [mS_err hlt, if_pos rfl] at this; exact this
    have Hse := hid hse
    have htk : ∀ (u : Value) (F : Nat -> Prop) (Y : World), KS Y -> SX Y xv M N ks17 ⟨0, 15⟩ (wS i) -> Rd Y F u (bys (sS19 i)) -> Calls Tryz.prog 15 #[xv, u] Y fun e w' => e = .returned (.int .i64 0) /\ ∃ M', SP Y M w' xv N ks17 ⟨0, 15⟩ (wS (i + 1)) M' := by
     intro u F Y h1 h2 h3; have := stake19_any xv M N ks17 ⟨0, 15⟩ (wS i) (sS19 i) u F Y h1 ks17_sm h2 h3 (by omega); rw [(ts_W19 hlt).1, (ts_W19 hlt).2] at this; exact this
    have Htk := hid htk; obtain ⟨lm, hlm⟩ := nm ((⟨4, (i : Int), 0, 2 + (i : Int), 0, List.replicate 32 0, [], []⟩ : Mg).l (.slice none 0 0) (.slice none 0 0)); rw [<- hlm] at hbm Hse; obtain ⟨S, hS⟩ := nm (sS19 i); rw [<- hS] at Hse Htk hsl; clear hlm hS hse htk; go_wp2_with (first | refine wp_ld 40 (.tmp 1) rfl rfl rfl b1.whole Tryz.underlying40 rfl (by rw [Lk.out]; exact sizeKs19) ?_ | refine wp_bld 47 [(0, .const (.int .i64 4)), (1, .tmp 16), (3, .tmp 18)] rfl rfl [(0, .int .i64 4), (1, .int .i64 (i : Int)), (3, .int .i64 (2 + (i : Int)))] rfl hbm ?_); rw [Hlk.out]; refine (Hse.out).mono ?_; rintro e w4 ⟨v4, rfl, ho4, hB4⟩; have hv4 := (Rd.of_own ho4)
    obtain ⟨A4, c4, rfl⟩ := own_shape ho4; have hD4 := hD.trans (hB4.mono hD.size); have hK4 := hKr.below hB4; have hx4 := Hx.out.1.below hB4; have hM4 := Hx.out.2; clear hB4 ho4 Hse hbm b1 hw; go_wp2_with (fail); refine (Htk.out _ _ _ hK4 hx4 hv4).mono ?_; rintro e w5 ⟨rfl, M5, hP⟩; have hD5 := Ch.below_of hD4 hP.c hM4 hD4.size
    have hM5 : ∀ b, M5 b -> w2.heap.size <= b := fun b h => by
     rcases hP.m b h with h | h
     . exact hM4 b h
     . have := hD4.size; omega
    have hx5 := hP.x; clear hP Htk hv4; go_wp2
    go_roundw
    case rel => exact ⟨i + 1, M5, by omega, by go_num, hid ⟨hx5, hM5⟩, hD5⟩
    case measure => simp [intOf]; omega
  . have hi' : i = 2 := by omega
    subst hi'; have hI : ¬ (2 : Int) < 2 := by omega
    have hso := hid (fun Y h => ssome19_any xv M N ks17 ⟨0, 15⟩ (wS 2) 0 Y ⟨by omega, by omega⟩ h); have hen := hid (fun Y h => senough19_any xv M N ks17 ⟨0, 15⟩ (wS 2) 0 Y ⟨by omega, by omega⟩ h); have hct := hid (fun Y h => scount19_3 xv M N ks17 ⟨0, 15⟩ (wS 2) Y h); rw [gr_W19.1] at hso; rw [gr_W19.2.1] at hen; rw [gr_W19.2.2] at hct; have hx := Hx.out.1; clear b1; go_wp2_with (fail); refine (hso.out _ hx).mono ?_; rintro e w6 ⟨rfl, hB6⟩; have hx := hx.below hB6; have hBr := hBr.trans (hB6.mono hBr.size); clear hB6; go_wp2_with (fail); refine (hen.out _ hx).mono ?_; rintro e w7 ⟨rfl, hB7⟩; have hx := hx.below hB7; have hBr := hBr.trans (hB7.mono hBr.size); clear hB7; go_wp2_with (fail); refine (hct.out _ hx).mono ?_; rintro e w8 ⟨rfl, hB8⟩; have hBr := hBr.trans (hB8.mono hBr.size); clear hB8; go_wp2; go_ret; exact ⟨by simp, hBr⟩
end Go.Proofs.YtnhhbbjkeekneaaGreatDoor
