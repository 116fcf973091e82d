/- AV: several texts in one (Kt Z2 Kw U0 Q1 W5 W8 A0 Q2 Q3 QA AV). -/
import Derived.Test.YthbbpfnfnnmdnaaDoorCk
import Derived.Test.YthbbpfnfnnmdnaaDoorCq
import Derived.Test.YthbbpfnfnnmdnaaDoorLW
import Derived.Test.YthbbpfnfnnmdnaaDoorNE
import Derived.Test.YthbbpfnfnnmdnaaDoorZC
import Derived.Test.YthbbpfnfnnmdnaaDoorVA
import Derived.Test.YthbbpfnfnnmdnaaDoorShelf
import Derived.Test.YthbbpfnfnnmdnaaDoorCt
import Derived.Test.YthbbpfnfnnmdnaaDoorN3
import Derived.Test.YthbbpfnfnnmdnaaDoorMP
/- Kt: layer 18: the laws' table of keys, their acts, and long. -/
namespace Go.Proofs.YthbbpfnfnnmdnaaDoor
open Go.RowKit Go.V
set_option maxRecDepth 100000 in
set_option maxHeartbeats 4000000 in
theorem table18_any (w : World) :
    Calls Tryd.prog 10 #[] w fun e w' => ∃ uk, e = .returned (.agg #[uk, .slice none 0 0]) ∧ Rd w' (fun b => w.heap.size ≤ b) uk (tx ks17) ∧ Below w.heap.size w w' := by
  obtain ⟨W0, hW0, b0, b1, hB⟩ := alloc2 w 33 33 zKs zKs
  go_enter Tryd.func10, Tryd.ntmps10
  go_wp2_with (first | (refine wp_new 33 rfl rfl zeroKs17 ?_; refine wp_stop ?_))
  refine wp_go ?_
  go_wp2_with (first | (refine wp_new 33 rfl rfl zeroKs17 ?_; refine wp_stop ?_))
  rw [← hW0]
  have hs0 : W0.heap.size = w.heap.size + 1 + 1 := by rw [hW0]; simp
  clear hW0
  obtain ⟨g1, hg1⟩ : ∃ g, g = w.heap.size + 1 := ⟨_, rfl⟩
  rw [← hg1] at b1 hs0
  first | rw [← hg1] | (rw [show (w.alloc (.cells zKs.toArray 33)).heap.size = w.heap.size + 1 from by simp, ← hg1])
  obtain ⟨g0, hg0⟩ : ∃ g, g = w.heap.size := ⟨_, rfl⟩
  rw [← hg0] at b0 ⊢
  have hw0 : w.heap.size ≤ g0 := by omega
  have h01 : g0 < g1 := by omega
  have h1s : g1 < W0.heap.size := by omega
  clear hg0 hg1 hs0
  have hOT := OT.nil W0 35 W0.heap.size nob
  refine wp_go ?_
  go_wp2
  go_loopw [3] (fun iv wr => ∃ (i : Nat) (uk : Value) (us : List Value), i ≤ 16 ∧ iv = .int .i64 i ∧ Blk wr g1 33 [uk, .slice none 0 0] ∧ Blk wr g0 33 zKs ∧ OT wr 35 W0.heap.size nob uk (kU i) us ∧ W0.heap.size ≤ wr.heap.size ∧ Below w.heap.size w wr) (fun i _ => 16 - (intOf i).toNat)
  case atStart => exact ⟨0, _, [], by omega, rfl, b1, b0, hOT, Nat.le_refl _, hB⟩
  case round =>
    clear b1 b0 hOT hB
    obtain ⟨i, uk, us, hi, rfl, b1, b0, hOT, hsz, hB⟩ := hrel
    by_cases hlt : i < 16
    · have hI : (i : Int) < 16 := by omega
      have hw8 : IntKind.u8.wrap (i : Int) = (i : Int) := by rw [IntKind.wrap_u8]; omega
      have c0 := b1.cellAt 0 _ rfl
      have hkl := kU_len i
      have Hnx := hid (kU_next i)
      go_wp2_with (first | (refine wp_bsl slB (.tmp 9) rfl rfl (u := .int .u8 (i : Int)) rfl rfl ?_; intro w2 b2 hB2; refine wp_stop ?_))
      have b2 : Blk w2 wr.heap.size 5 [byteV (UInt8.ofNat i)] := by
        have e : byteV (UInt8.ofNat i) = .int .u8 (i : Int) := by
          show (Value.int .u8 ((UInt8.ofNat i).toNat : Int)) = _
          rw [UInt8.toNat_ofNat_of_lt' (by show i < 256; omega)]
        rw [e]; exact b2
      have hrow : ∀ b, uk.ownBlock = some b → W0.heap.size ≤ b ∧ b < wr.heap.size := fun b h => hOT.own.lt b h
      obtain ⟨g2, hg2⟩ : ∃ g, g = wr.heap.size := ⟨_, rfl⟩
      rw [← hg2] at b2 hsz hrow ⊢
      have hu := rd_one (F := fun b => W0.heap.size ≤ b ∧ ¬ nob b ∧ uk.ownBlock ≠ some b) b2 ⟨hsz, fun h => h, fun h => by have := hrow _ h; omega⟩
      have hOT := hOT.ch (Ch.of_below hB2) (fun b hb => hb.elim)
      have b1 := b1.below hB2
      have b0 := b0.below hB2
      have hB := hB.trans (hB2.mono hB.size)
      have hs2 := b2.lt
      have c0 := b1.cellAt 0 _ rfl
      clear hB2 hg2
      refine wp_go ?_
      go_wp2_with (first | (refine wp_push (.tmp 7) (.tmp 10) 11 slBB8 rfl rfl rfl rfl rfl (u := .slice (some ⟨g2, 0, none⟩) 1 1) rfl rfl rfl (by simp) rfl hOT.own (by rw [hkl]; simp only [maxLen]; omega) (by rw [hkl]; omega) (by omega) ?_; intro v3 w3 ho3 hG3 hd3; refine wp_stop ?_))
      have hOT := OT.pushG hOT hu (fun b h => h.elim) ho3 hG3 hd3
      have b1 := b1.keep (hG3.block _ b1.lt (by intro e; have := hrow _ e.symm; omega))
      have b0 := b0.keep (hG3.block _ b0.lt (by intro e; have := hrow _ e.symm; omega))
      have hB := hB.grown hG3 hB.size (fun k hk => by have := hrow _ hk; have := hB.size; omega)
      have hs3 := hG3.size
      obtain ⟨A3, c3, rfl⟩ := own_shape ho3
      clear hG3 ho3 hd3 hu c0
      refine wp_go ?_
      go_wp2_with (first | (refine wp_st1 30 (.tmp 13) (.tmp 12) rfl rfl rfl (f := 0) rfl (v := .slice A3 ((kU i).length + 1) c3) rfl b1 (by show 0 < 2; omega) sizeSS8 rfl rfl ?_; intro w4 b1 G4; refine wp_stop ?_))
      have hOT := hOT.ch (G := fun b => b = g1) ((Ch.refl _ _).grow G4 (fun k hk => by injection hk with hk; exact .inl hk.symm)) (fun b hb => .inr (by omega))
      have b0 := b0.keep (G4.block _ b0.lt (by intro e; injection e with e; omega))
      have hB := hB.grown G4 hB.size (fun k hk => by injection hk with hk; omega)
      have hs4 := G4.size
      rw [← Hnx.out] at hOT
      refine wp_go ?_
      go_wp2
      go_roundw
      case rel => exact ⟨i + 1, _, _, by omega, by go_num, b1, b0, hOT, by omega, hB⟩
      case measure => simp [intOf]; omega
    · have hi' : i = 16 := by omega
      subst hi'
      have hI : ¬ (16 : Int) < 16 := by omega
      have hrd : Rd wr (fun b => W0.heap.size ≤ b) uk (tx ks17) := hOT.rd
      obtain ⟨Ak, ck, rfl⟩ := own_shape hOT.own
      go_wp2_with (first | refine wp_ld 33 (.tmp 1) rfl rfl rfl b1.whole Tryd.underlying33 rfl sizeKs17 ?_ | (refine wp_st 33 (.tmp 0) (.tmp 15) rfl rfl rfl (f := 0) rfl (l := [.slice Ak (kU 16).length ck, .slice none 0 0]) rfl b0 (by show 0 + 2 ≤ 2; omega) sizeKs17 (by intro v hv; simp at hv; rcases hv with rfl | rfl <;> rfl) ?_; intro w5 k0 G5))
      rw [set_all zKs [.slice Ak (kU 16).length ck, .slice none 0 0] rfl] at k0
      have hrd := hrd.keep (F' := fun b => w.heap.size ≤ b) (fun b hb hF => ⟨by have hF : W0.heap.size ≤ b := hF; omega, G5.block b hb (by have hF : W0.heap.size ≤ b := hF; intro e; injection e with e; omega)⟩)
      have hB := hB.grown G5 hB.size (fun k hk => by injection hk with hk; omega)
      refine ret_cell rfl rfl k0.whole Tryd.underlying33 rfl sizeKs17 rfl ?_
      exact ⟨_, rfl, hrd, hB⟩
/-- an act: what is done, of which bytes -/
structure At where
  k : Int
  b : List UInt8
def At.l (x : At) (u : Value) : List Value := [.int .i64 x.k, u]
def atD : WD At 2 := ⟨fun x => [.atom (.int .i64 x.k), bys x.b], fun _ => rfl, by omega⟩
theorem at_open {w : World} {F : Nat → Prop} {x : At} {cs : List Value} (h : WdEl w F atD x cs) : ∃ u, cs = x.l u ∧ Rd w F u (bys x.b) := by
  have hl := h.len
  match cs, hl with
  | [c0, c1], _ =>
    have h0 := h.at_ 0 c0 _ rfl rfl
    have h1 := h.at_ 1 c1 _ rfl rfl
    have h0 : c0 = .int .i64 x.k := by unfold Rd at h0; exact h0
    subst h0
    exact ⟨c1, rfl, h1⟩
theorem at_mk {w : World} {F : Nat → Prop} {x : At} {u : Value} (hu : Rd w F u (bys x.b)) : WdEl w F atD x (x.l u) :=
  ⟨rfl, fun j v d hv hd => by
    match j with
    | 0 => simp [At.l] at hv; simp [atD] at hd; subst hv hd; unfold Rd; rfl
    | 1 => simp [At.l] at hv; simp [atD] at hd; subst hv hd; exact hu
    | j + 2 => simp [At.l] at hv⟩
def longT (l : List At) : Bool := decide (60 < l.length ∨ ∃ x ∈ l, 500 < x.b.length)
set_option maxRecDepth 100000 in
set_option maxHeartbeats 500000 in
theorem long18_any (l : List At) (v : Value) (F : Nat → Prop) (w : World) (h : Rd w F v (wds atD l)) :
    Calls Tryd.prog 8 #[v] w fun e w' => e = .returned (.bool (longT l)) ∧ Below w.heap.size w w' := by
  obtain ⟨A, c, rfl, _, _⟩ := wds_shape h
  obtain ⟨Z, hZ⟩ : ∃ Z, Z = longT l := ⟨_, rfl⟩
  have HZ : Hid (Z = decide (60 < l.length ∨ ∃ x ∈ l, 500 < x.b.length)) := hZ
  rw [← hZ]
  clear hZ
  go_enter Tryd.func8, Tryd.ntmps8
  by_cases h60 : 60 < l.length
  · have hI : (60 : Int) < (l.length : Int) := by omega
    have Hz : Hid (Z = true) := HZ.out.trans (decide_eq_true (.inl h60))
    clear HZ
    go_wp2
    go_ret
    exact ⟨by rw [Hz.out]; rfl, Below.refl _ _⟩
  · have hI : ¬ (60 : Int) < (l.length : Int) := by omega
    go_wp2
    go_loopw [9] (fun iv wr => ∃ i : Nat, i ≤ l.length ∧ iv = .int .i64 i ∧ Hid (∀ j x, j < i → l[j]? = some x → x.b.length ≤ 500) ∧ wr = w) (fun i _ => l.length - (intOf i).toNat)
    case atStart => exact ⟨0, Nat.zero_le _, rfl, hid (fun j x hj => absurd hj (Nat.not_lt_zero _)), rfl⟩
    case round =>
      obtain ⟨i, hi, rfl, hs, rfl⟩ := hrel
      by_cases hlt : i < l.length
      · have hI2 : (i : Int) < (l.length : Int) := by omega
        obtain ⟨x, hx⟩ : ∃ x, l[i]? = some x := ⟨_, List.getElem?_eq_getElem hlt⟩
        obtain ⟨g, off, cs, rfl, _, hrg, hel⟩ := wd_el h hx
        obtain ⟨u, rfl, hu⟩ := at_open hel
        obtain ⟨Au, cu, rfl⟩ := Rd.shape hu
        have c7 : wr.cell? ⟨g, off + i * 2 + 1, none⟩ = some (.slice Au x.b.length cu) := hrg 1 _ rfl
        have Hx := hid hx
        clear hx hrg hel hu
        by_cases h2 : 500 < x.b.length
        · have hI3 : (500 : Int) < (x.b.length : Int) := by omega
          have Hz : Hid (Z = true) := HZ.out.trans (decide_eq_true (.inr ⟨x, List.mem_of_getElem? Hx.out, h2⟩))
          clear HZ
          go_wp2
          go_ret
          exact ⟨by rw [Hz.out]; rfl, Below.refl _ _⟩
        · have hI3 : ¬ (500 : Int) < (x.b.length : Int) := by omega
          have Hs := hid (fun j y (hj : j < i + 1) (hy : l[j]? = some y) => show y.b.length ≤ 500 from by
            rcases Nat.lt_or_ge j i with h' | h'
            · exact hs.out j y h' hy
            · have e : j = i := by omega
              subst e
              have := hy.symm.trans Hx.out
              injection this with this
              subst this
              omega)
          go_wp2
          go_roundw
          case rel => exact ⟨i + 1, by omega, by go_num, Hs, by trivial⟩
          case measure => simp [intOf]; omega
      · have hi' : i = l.length := by omega
        subst hi'
        have hI2 : ¬ (l.length : Int) < (l.length : Int) := by omega
        have Hz : Hid (Z = false) := HZ.out.trans (decide_eq_false (fun h' => by
          rcases h' with h' | ⟨x, hx, h'⟩
          · omega
          · obtain ⟨j, hj⟩ := List.mem_iff_getElem?.1 hx
            have hjl : j < l.length := by
              rcases Nat.lt_or_ge j l.length with h | h
              · exact h
              · rw [List.getElem?_eq_none h] at hj; cases hj
            have := hs.out j x hjl hj
            omega))
        clear HZ
        go_wp2
        go_ret
        exact ⟨by rw [Hz.out]; rfl, Below.refl _ _⟩
end Go.Proofs.YthbbpfnfnnmdnaaDoor
/- Z2: layer 9: wakes. -/
namespace Go.V
open Go.RowKit
end Go.V
namespace Go.Proofs.YthbbpfnfnnmdnaaDoor
open Go.RowKit Go.V
theorem errS_M {ks : List (List UInt8)} {m : Mg} (hh : m.h.length = 32) (hlo : longB m = false) : errS ks m = if errM m = 0 then (if (ks.length : Int) ≤ m.f then 6 else 0) else errM m := by
  unfold errS; rw [errG_M hh hlo]
end Go.Proofs.YthbbpfnfnnmdnaaDoor
/- Kw: layer 18, pure: what the laws' wakes tell. No project text. -/
namespace Go.Proofs.YthbbpfnfnnmdnaaDoor
open Go.RowKit Go.V
def h9 : List UInt8 := 9 :: List.replicate 31 0
def mV (i : Nat) : Mg := ⟨2, (i : Int), 0, 0, 1, h9, [], []⟩
theorem mV_in {i : Nat} (h : i < 3) : MgIn (mV i) := ⟨by show in64w 2; unfold in64w; omega, by show in64w (i : Int); unfold in64w; omega, by show in64w 0; unfold in64w; omega, by show in64w 0; unfold in64w; omega, by show in64w 1; unfold in64w; omega, rfl⟩
theorem mV_sm (i : Nat) : MgSm (mV i) := ⟨by show 0 ≤ 1000000; omega, by show 0 ≤ 1000; omega, by intro t ht; cases ht⟩
theorem mV_err {i : Nat} (h : i < 3) : errS ks17 (mV i) = 0 := by
  match i, h with
  | 0, _ => rw [errS_M rfl (by decide)]; decide
  | 1, _ => rw [errS_M rfl (by decide)]; decide
  | 2, _ => rw [errS_M rfl (by decide)]; decide
  | i + 3, h => exact absurd h (by omega)
def sV18 (i : Nat) : List UInt8 := slS ks17 (mV i)
theorem sV18_len {i : Nat} (h : i < 3) : (sV18 i).length ≤ 100 := by
  unfold sV18 slS
  rw [List.length_append, len_tag, len_by2 rfl]
  match i, h with
  | 0, _ => decide
  | 1, _ => decide
  | 2, _ => decide
  | i + 3, h => exact absurd h (by omega)
theorem has18 (i : Nat) (h : i < 3) : hasB 15 (i : Int) = true := by
  unfold hasB
  rw [Bool.and_eq_true, decide_eq_true_eq, Int.toNat_natCast]
  refine ⟨by omega, ?_⟩
  have : ∀ j : Fin 3, mbit 15 j.val = true := by decide +kernel
  exact this ⟨i, h⟩
theorem tl_W {i : Nat} (h : i < 3) : tlC ks17 ⟨0, 15⟩ 1 (sV18 i) = .ok (mV i) := by
  have h1 := op_sl (ks := ks17) (m := mV i) rfl (mV_err h)
  have hb : hasB 15 (mV i).f = true := has18 i h
  have h2 : opOf ks17 ⟨0, 15⟩ (sV18 i) = .ok (mV i) := by
    unfold opOf sV18
    rw [h1]
    exact if_pos hb
  unfold tlC
  rw [h2]
  rfl
def lW (i : Nat) : List Nv := (List.range i).map (fun j => ⟨mV j, sV18 j⟩)
theorem lW_next (i : Nat) : lW (i + 1) = lW i ++ [⟨mV i, sV18 i⟩] := by unfold lW; rw [List.range_succ, List.map_append]; rfl
theorem tk_W {i : Nat} (h : i < 3) : tkE ks17 ⟨0, 15⟩ 1 (lW i) (sV18 i) = 0 ∧ tkL ks17 ⟨0, 15⟩ 1 (lW i) (sV18 i) = lW (i + 1) := by
  have hno : (lW i).any (sameV (mV i)) = false := by
    cases ha : (lW i).any (sameV (mV i)) with
    | false => rfl
    | true =>
      obtain ⟨v, hv, hs⟩ := List.any_eq_true.1 ha
      unfold lW at hv
      obtain ⟨j, hj, rfl⟩ := List.mem_map.1 hv
      have hj := List.mem_range.1 hj
      have hs := (of_decide_eq_true hs).1
      have hs : (j : Int) = (i : Int) := hs
      omega
  unfold tkE tkL
  rw [tl_W h]
  show (if (lW i).any (sameV (mV i)) = true then 7 else 0) = 0 ∧ (if (lW i).any (sameV (mV i)) = true then lW i else lW i ++ [⟨mV i, sV18 i⟩]) = _
  rw [hno, lW_next]
  exact ⟨rfl, rfl⟩
theorem lW_in : ∀ i, i ≤ 3 → NvIn ks17 ⟨0, 15⟩ 1 (lW i)
  | 0, _ => NvIn.nil _ _ _
  | i + 1, h => by
    rw [← (tk_W (i := i) (by omega)).2]
    exact tk_in (lW_in i (by omega)) _
theorem mem_W (i : Nat) : (lW 3).any (isV 2 0 h9 i) = decide (i < 3) := by
  rw [Bool.eq_iff_iff, List.any_eq_true, decide_eq_true_eq]
  constructor
  · rintro ⟨v, hv, hp⟩
    unfold lW at hv
    obtain ⟨j, hj, rfl⟩ := List.mem_map.1 hv
    have hj := List.mem_range.1 hj
    have hp : (j : Int) = (i : Int) := (of_decide_eq_true hp).1
    omega
  · intro hi
    refine ⟨⟨mV i, sV18 i⟩, ?_, decide_eq_true ⟨rfl, rfl, rfl, rfl⟩⟩
    unfold lW
    exact List.mem_map.2 ⟨i, List.mem_range.2 hi, rfl⟩
theorem for_W : (forC (lW 3) 2 0 h9).length = 3 := by
  rw [for_len]
  unfold memC
  rw [show (fun i => (lW 3).any (isV 2 0 h9 i)) = (fun i => decide (i < 3)) from funext mem_W]
  rfl
theorem mst_W : mstC ⟨0, 15⟩ (lW 3) 2 0 = some h9 := by
  rw [mst_iff (lW_in 3 (Nat.le_refl _))]
  unfold enfC
  rw [decide_eq_true_eq, for_W]
  decide +kernel
end Go.Proofs.YthbbpfnfnnmdnaaDoor
/- U0: layer 14, pure: the service's values as lists, what an op comes to, their text. No project text. -/
namespace Go.V
open Go.RowKit
structure Cl where
  t : Bool
  n : Int
structure Ok where
  k : Int
  y : Int
  a : Int
  b : Int
def Cl.l (c : Cl) : List Value := [.bool c.t, .int .i64 c.n]
def Ok.l (o : Ok) : List Value := [.int .i64 o.k, .int .i64 o.y, .int .i64 o.a, .int .i64 o.b]
def cvs (c : List Cl) : List Value := c.flatMap Cl.l
def nmC (c : Cl) : Option Int := if c.t = true then some c.n else none
/-- what counts of values -/
def nmF (c : List Cl) : List (Option Int) := c.map nmC
def goodK (o : Ok) : Prop := (0 ≤ o.y ∧ o.y ≤ 15) ∧ 1 ≤ o.k ∧ o.k ≤ 5
instance (o : Ok) : Decidable (goodK o) := by unfold goodK; exact inferInstance
/-! the text -/
end Go.V
/- Q1: layer 7: requests; contracts of Right, formed, by the program and by the document. -/
namespace Go.V
open Go.RowKit
/-- a request: whose, its number, kind, key, A, B, its signature -/
structure Rq where
  c : Int
  s : Int
  k : Int
  y : Int
  a : Int
  b : Int
  g : List UInt8
def Rq.l (r : Rq) (u : Value) : List Value := [.int .i64 r.c, .int .i64 r.s, .int .i64 r.k, .int .i64 r.y, .int .i64 r.a, .int .i64 r.b, u]
def Rq.v (r : Rq) (u : Value) : Value := .agg #[.int .i64 r.c, .int .i64 r.s, .int .i64 r.k, .int .i64 r.y, .int .i64 r.a, .int .i64 r.b, u]
end Go.V
namespace Go.Proofs.YthbbpfnfnnmdnaaDoor
open Go.RowKit Go.V
end Go.Proofs.YthbbpfnfnnmdnaaDoor
/- W5: layer 6: wakes, same, the law ViewsCounts. -/
namespace Go.Proofs.YthbbpfnfnnmdnaaDoor
open Go.RowKit Go.V
end Go.Proofs.YthbbpfnfnnmdnaaDoor
/- W8: layer 6: contracts of Next, by the program and by the document; the law ViewsNext. -/
namespace Go.Proofs.YthbbpfnfnnmdnaaDoor
open Go.RowKit Go.V
end Go.Proofs.YthbbpfnfnnmdnaaDoor
/- A0: layer 15, pure: worlds, what a batch does. No project text. -/
namespace Go.Proofs.YthbbpfnfnnmdnaaDoor
open Go.RowKit Go.V
/-- a reply -/
structure Rp where
  c : Int
  s : Int
  k : Int
  o : Bool
  n : Int
structure Vw where
  n : Int
  m : Nat
deriving DecidableEq
/-- a world -/
structure Wo where
  s : Int
  f : Int
  v : Vw
  u : Vw
  c : List Cl
  a : List Rp
def Rp.l (r : Rp) : List Value := [.int .i64 r.c, .int .i64 r.s, .int .i64 r.k, .bool r.o, .int .i64 r.n]
def Vw.l (x : Vw) : List Value := [.int .i64 x.n, .int .u16 (x.m : Int)]
def Wo.l (W : Wo) : List Value := [.int .i64 W.s, .int .i64 W.f, .int .i64 W.v.n, .int .u16 (W.v.m : Int), .int .i64 W.u.n, .int .u16 (W.u.m : Int)] ++ (cvs W.c ++ W.a.flatMap Rp.l)
/-- what counts of it -/
structure We where
  s : Int
  f : Int
  v : Vw
  u : Vw
  c : List (Option Int)
  a : List Rp
def Wo.e (W : Wo) : We := ⟨W.s, W.f, W.v, W.u, nmF W.c, W.a⟩
/-! sizes -/
/-! what was done isn't done again -/
/-! the view -/
end Go.Proofs.YthbbpfnfnnmdnaaDoor
/- Q2: layer 7: contracts of formed, by the program and by the document. -/
namespace Go.Proofs.YthbbpfnfnnmdnaaDoor
open Go.RowKit Go.V
end Go.Proofs.YthbbpfnfnnmdnaaDoor
/- Q3: layer 7: a request's text: contracts of Text, by the program and by the document. -/
namespace Go.V
open Go.RowKit
def Rq.four (r : Rq) : List UInt8 := [UInt8.ofNat r.c.toNat, UInt8.ofNat r.s.toNat, UInt8.ofNat r.k.toNat, UInt8.ofNat r.y.toNat]
def Rq.text (r : Rq) : List UInt8 := (r.four ++ packed (foldN r.a)) ++ packed (foldN r.b)
end Go.V
namespace Go.Proofs.YthbbpfnfnnmdnaaDoor
open Go.RowKit Go.V
end Go.Proofs.YthbbpfnfnnmdnaaDoor
/- QA: layer 7: lists of requests in memory, rising lists. No project text. -/
namespace Go.V
open Go.RowKit
section
variable {P : Program} {w : World} {ops : Array Oper} {rest : List Oper} {o : Oper} {a : Act} {Q : Exit → Act → World → Prop}
end
/-- what a row of requests holds, their signatures in blocks of F -/
def RqX (w : World) (F : Nat → Prop) : List Rq → List Value → Prop
  | [], xs => xs = []
  | r :: l, xs => ∃ u ys, xs = r.l u ++ ys ∧ Rd w F u (bys r.g) ∧ RqX w F l ys
theorem RqX.keep {w w' : World} {F F' : Nat → Prop} (hF : ∀ b, b < w.heap.size → F b → F' b ∧ w'.heap[b]? = w.heap[b]?) : ∀ {l : List Rq} {xs : List Value}, RqX w F l xs → RqX w' F' l xs
  | [], _, h => h
  | _ :: _, _, ⟨u, ys, h1, h2, h3⟩ => ⟨u, ys, h1, h2.keep hF, h3.keep hF⟩
theorem RqX.snoc {w : World} {F : Nat → Prop} {r : Rq} {u : Value} (hu : Rd w F u (bys r.g)) : ∀ {l : List Rq} {xs : List Value}, RqX w F l xs → RqX w F (l ++ [r]) (xs ++ r.l u)
  | [], _, h => by
    have h : _ = [] := h
    subst h
    exact ⟨u, [], by simp, hu, rfl⟩
  | x :: l, _, ⟨u', ys, h1, h2, h3⟩ => ⟨u', ys ++ r.l u, by rw [h1, List.append_assoc], h2, RqX.snoc hu h3⟩
/-- rising numbers: of two of one client the later one has the greater -/
def ris (l : List Rq) : Prop := l.Pairwise (fun x y => x.c = y.c → x.s < y.s)
instance (l : List Rq) : Decidable (ris l) := by unfold ris; infer_instance
end Go.V
/- AV: lists of one struct, guarded struct literals, lists of replies. No project text. -/
namespace Go.V
open Go.RowKit
/-- a struct literal, guarded or not -/
theorem wp_bldw {P : Program} {w : World} {ops : Array Oper} {rest : List Oper} {o : Oper} {a : Act} {Q : Exit → Act → World → Prop} (t : TypeId) (parts : List (Nat × Operand)) (hw : Region.wanted o (yielded ops a.tmps) = true) (ho : o.op = .build t parts.toArray) (vs : List (Nat × Value)) (hp : (parts.map fun x => (x.1, a.eval x.2)) = vs) {cells : Array Value} (hr : ∀ W : World, (Instr.build t vs.toArray).run P W = .ok (.agg cells) W)
    (h : wpList P ops Q rest (a.put o.dst (.agg cells)) w) : wpList P ops Q (o :: rest) a w := by
  refine wpList_step fun K hK => ?_
  rw [if_pos hw]
  have e : (parts.toArray.map fun (i, x) => (i, a.eval x)) = vs.toArray := by rw [List.map_toArray, ← hp]
  unfold Oper.wp execOp
  simp only [ho, e, Sem.run_bind, Sem.run_pure, hr, Result.andThen_ok]
  exact hK _ _ h
end Go.V
namespace Go.Proofs.YthbbpfnfnnmdnaaDoor
open Go.RowKit Go.V
end Go.Proofs.YthbbpfnfnnmdnaaDoor
