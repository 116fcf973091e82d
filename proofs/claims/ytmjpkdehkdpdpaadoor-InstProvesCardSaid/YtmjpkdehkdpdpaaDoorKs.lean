/- Ks: several texts in one (Ck Kt Kw Ks). -/
import Derived.Test.YtmjpkdehkdpdpaaDoorCz
import Derived.Test.YtmjpkdehkdpdpaaDoorS6
import Derived.Test.YtmjpkdehkdpdpaaDoorKp
import Derived.Test.YtmjpkdehkdpdpaaDoorLW
import Derived.Test.YtmjpkdehkdpdpaaDoorOT
import Derived.Test.YtmjpkdehkdpdpaaDoorZ2
import Derived.Test.YtmjpkdehkdpdpaaDoorKC
import Derived.Test.YtmjpkdehkdpdpaaDoorAV
/- Ck: layers 17 and 18: the laws' table of keys, as lists. -/
namespace Go.Proofs.YtmjpkdehkdpdpaaDoor
open Go.RowKit Go.V
def kU (i : Nat) : List (List UInt8) := (List.range i).map (fun j => [UInt8.ofNat j])
def ks17 : List (List UInt8) := kU 16
theorem kU_next (i : Nat) : kU (i + 1) = kU i ++ [[UInt8.ofNat i]] := by
  unfold kU
  rw [List.range_succ, List.map_append]
  rfl
theorem kU_len (i : Nat) : (kU i).length = i := by unfold kU; simp
theorem ks17_sm : KsSm ks17 := by
  refine ⟨by unfold ks17; rw [kU_len]; omega, fun k hk => ?_⟩
  unfold ks17 kU at hk
  obtain ⟨j, _, rfl⟩ := List.mem_map.1 hk
  show 1 ≤ 1000000
  omega
def zKs : List Value := [.slice none 0 0, .slice none 0 0]
theorem zeroKs17 : (Tryd.prog.info? 33).map (·.zero) = some (some (.agg zKs.toArray)) := by kernel_rfl
end Go.Proofs.YtmjpkdehkdpdpaaDoor
/- Kt: layer 18: the laws' table of keys, their acts, and long. -/
namespace Go.Proofs.YtmjpkdehkdpdpaaDoor
open Go.RowKit Go.V
set_option maxRecDepth 100000 in
set_option maxHeartbeats 4000000 in
theorem table18_any (w : World) :
    Calls Tryd.prog 10 #[] w fun e w' => ∃ uk, e = .returned (.agg #[uk, .slice none 0 0]) ∧ Rd w' (fun b => w.heap.size ≤ b) uk (tx ks17) ∧ Below w.heap.size w w' := by
  obtain ⟨W0, hW0, b0, b1, hB⟩ := alloc2 w 33 33 zKs zKs
  go_enter Tryd.func10, Tryd.ntmps10
  go_wp2_with (first | (refine wp_new 33 rfl rfl zeroKs17 ?_; refine wp_stop ?_))
  refine wp_go ?_
  go_wp2_with (first | (refine wp_new 33 rfl rfl zeroKs17 ?_; refine wp_stop ?_))
  rw [← hW0]
  have hs0 : W0.heap.size = w.heap.size + 1 + 1 := by rw [hW0]; simp
  clear hW0
  obtain ⟨g1, hg1⟩ : ∃ g, g = w.heap.size + 1 := ⟨_, rfl⟩
  rw [← hg1] at b1 hs0
  first | rw [← hg1] | (rw [show (w.alloc (.cells zKs.toArray 33)).heap.size = w.heap.size + 1 from by simp, ← hg1])
  obtain ⟨g0, hg0⟩ : ∃ g, g = w.heap.size := ⟨_, rfl⟩
  rw [← hg0] at b0 ⊢
  have hw0 : w.heap.size ≤ g0 := by omega
  have h01 : g0 < g1 := by omega
  have h1s : g1 < W0.heap.size := by omega
  clear hg0 hg1 hs0
  have hOT := OT.nil W0 35 W0.heap.size nob
  refine wp_go ?_
  go_wp2
  go_loopw [3] (fun iv wr => ∃ (i : Nat) (uk : Value) (us : List Value), i ≤ 16 ∧ iv = .int .i64 i ∧ Blk wr g1 33 [uk, .slice none 0 0] ∧ Blk wr g0 33 zKs ∧ OT wr 35 W0.heap.size nob uk (kU i) us ∧ W0.heap.size ≤ wr.heap.size ∧ Below w.heap.size w wr) (fun i _ => 16 - (intOf i).toNat)
  case atStart => exact ⟨0, _, [], by omega, rfl, b1, b0, hOT, Nat.le_refl _, hB⟩
  case round =>
    clear b1 b0 hOT hB
    obtain ⟨i, uk, us, hi, rfl, b1, b0, hOT, hsz, hB⟩ := hrel
    by_cases hlt : i < 16
    · have hI : (i : Int) < 16 := by omega
      have hw8 : IntKind.u8.wrap (i : Int) = (i : Int) := by rw [IntKind.wrap_u8]; omega
      have c0 := b1.cellAt 0 _ rfl
      have hkl := kU_len i
      have Hnx := hid (kU_next i)
      go_wp2_with (first | (refine wp_bsl slB (.tmp 9) rfl rfl (u := .int .u8 (i : Int)) rfl rfl ?_; intro w2 b2 hB2; refine wp_stop ?_))
      have b2 : Blk w2 wr.heap.size 5 [byteV (UInt8.ofNat i)] := by
        have e : byteV (UInt8.ofNat i) = .int .u8 (i : Int) := by
          show (Value.int .u8 ((UInt8.ofNat i).toNat : Int)) = _
          rw [UInt8.toNat_ofNat_of_lt' (by show i < 256; omega)]
        rw [e]; exact b2
      have hrow : ∀ b, uk.ownBlock = some b → W0.heap.size ≤ b ∧ b < wr.heap.size := fun b h => hOT.own.lt b h
      obtain ⟨g2, hg2⟩ : ∃ g, g = wr.heap.size := ⟨_, rfl⟩
      rw [← hg2] at b2 hsz hrow ⊢
      have hu := rd_one (F := fun b => W0.heap.size ≤ b ∧ ¬ nob b ∧ uk.ownBlock ≠ some b) b2 ⟨hsz, fun h => h, fun h => by have := hrow _ h; omega⟩
      have hOT := hOT.ch (Ch.of_below hB2) (fun b hb => hb.elim)
      have b1 := b1.below hB2
      have b0 := b0.below hB2
      have hB := hB.trans (hB2.mono hB.size)
      have hs2 := b2.lt
      have c0 := b1.cellAt 0 _ rfl
      clear hB2 hg2
      refine wp_go ?_
      go_wp2_with (first | (refine wp_push (.tmp 7) (.tmp 10) 11 slBB8 rfl rfl rfl rfl rfl (u := .slice (some ⟨g2, 0, none⟩) 1 1) rfl rfl rfl (by simp) rfl hOT.own (by rw [hkl]; simp only [maxLen]; omega) (by rw [hkl]; omega) (by omega) ?_; intro v3 w3 ho3 hG3 hd3; refine wp_stop ?_))
      have hOT := OT.pushG hOT hu (fun b h => h.elim) ho3 hG3 hd3
      have b1 := b1.keep (hG3.block _ b1.lt (by intro e; have := hrow _ e.symm; omega))
      have b0 := b0.keep (hG3.block _ b0.lt (by intro e; have := hrow _ e.symm; omega))
      have hB := hB.grown hG3 hB.size (fun k hk => by have := hrow _ hk; have := hB.size; omega)
      have hs3 := hG3.size
      obtain ⟨A3, c3, rfl⟩ := own_shape ho3
      clear hG3 ho3 hd3 hu c0
      refine wp_go ?_
      go_wp2_with (first | (refine wp_st1 30 (.tmp 13) (.tmp 12) rfl rfl rfl (f := 0) rfl (v := .slice A3 ((kU i).length + 1) c3) rfl b1 (by show 0 < 2; omega) sizeSS8 rfl rfl ?_; intro w4 b1 G4; refine wp_stop ?_))
      have hOT := hOT.ch (G := fun b => b = g1) ((Ch.refl _ _).grow G4 (fun k hk => by injection hk with hk; exact .inl hk.symm)) (fun b hb => .inr (by omega))
      have b0 := b0.keep (G4.block _ b0.lt (by intro e; injection e with e; omega))
      have hB := hB.grown G4 hB.size (fun k hk => by injection hk with hk; omega)
      have hs4 := G4.size
      rw [← Hnx.out] at hOT
      refine wp_go ?_
      go_wp2
      go_roundw
      case rel => exact ⟨i + 1, _, _, by omega, by go_num, b1, b0, hOT, by omega, hB⟩
      case measure => simp [intOf]; omega
    · have hi' : i = 16 := by omega
      subst hi'
      have hI : ¬ (16 : Int) < 16 := by omega
      have hrd : Rd wr (fun b => W0.heap.size ≤ b) uk (tx ks17) := hOT.rd
      obtain ⟨Ak, ck, rfl⟩ := own_shape hOT.own
      go_wp2_with (first | refine wp_ld 33 (.tmp 1) rfl rfl rfl b1.whole Tryd.underlying33 rfl sizeKs17 ?_ | (refine wp_st 33 (.tmp 0) (.tmp 15) rfl rfl rfl (f := 0) rfl (l := [.slice Ak (kU 16).length ck, .slice none 0 0]) rfl b0 (by show 0 + 2 ≤ 2; omega) sizeKs17 (by intro v hv; simp at hv; rcases hv with rfl | rfl <;> rfl) ?_; intro w5 k0 G5))
      rw [set_all zKs [.slice Ak (kU 16).length ck, .slice none 0 0] rfl] at k0
      have hrd := hrd.keep (F' := fun b => w.heap.size ≤ b) (fun b hb hF => ⟨by have hF : W0.heap.size ≤ b := hF; omega, G5.block b hb (by have hF : W0.heap.size ≤ b := hF; intro e; injection e with e; omega)⟩)
      have hB := hB.grown G5 hB.size (fun k hk => by injection hk with hk; omega)
      refine ret_cell rfl rfl k0.whole Tryd.underlying33 rfl sizeKs17 rfl ?_
      exact ⟨_, rfl, hrd, hB⟩
/-- an act: what is done, of which bytes -/
structure At where
  k : Int
  b : List UInt8
def At.l (x : At) (u : Value) : List Value := [.int .i64 x.k, u]
def atD : WD At 2 := ⟨fun x => [.atom (.int .i64 x.k), bys x.b], fun _ => rfl, by omega⟩
theorem at_open {w : World} {F : Nat → Prop} {x : At} {cs : List Value} (h : WdEl w F atD x cs) : ∃ u, cs = x.l u ∧ Rd w F u (bys x.b) := by
  have hl := h.len
  match cs, hl with
  | [c0, c1], _ =>
    have h0 := h.at_ 0 c0 _ rfl rfl
    have h1 := h.at_ 1 c1 _ rfl rfl
    have h0 : c0 = .int .i64 x.k := by unfold Rd at h0; exact h0
    subst h0
    exact ⟨c1, rfl, h1⟩
theorem at_mk {w : World} {F : Nat → Prop} {x : At} {u : Value} (hu : Rd w F u (bys x.b)) : WdEl w F atD x (x.l u) :=
  ⟨rfl, fun j v d hv hd => by
    match j with
    | 0 => simp [At.l] at hv; simp [atD] at hd; subst hv hd; unfold Rd; rfl
    | 1 => simp [At.l] at hv; simp [atD] at hd; subst hv hd; exact hu
    | j + 2 => simp [At.l] at hv⟩
def longT (l : List At) : Bool := decide (60 < l.length ∨ ∃ x ∈ l, 500 < x.b.length)
set_option maxRecDepth 100000 in
set_option maxHeartbeats 500000 in
theorem long18_any (l : List At) (v : Value) (F : Nat → Prop) (w : World) (h : Rd w F v (wds atD l)) :
    Calls Tryd.prog 8 #[v] w fun e w' => e = .returned (.bool (longT l)) ∧ Below w.heap.size w w' := by
  obtain ⟨A, c, rfl, _, _⟩ := wds_shape h
  obtain ⟨Z, hZ⟩ : ∃ Z, Z = longT l := ⟨_, rfl⟩
  have HZ : Hid (Z = decide (60 < l.length ∨ ∃ x ∈ l, 500 < x.b.length)) := hZ
  rw [← hZ]
  clear hZ
  go_enter Tryd.func8, Tryd.ntmps8
  by_cases h60 : 60 < l.length
  · have hI : (60 : Int) < (l.length : Int) := by omega
    have Hz : Hid (Z = true) := HZ.out.trans (decide_eq_true (.inl h60))
    clear HZ
    go_wp2
    go_ret
    exact ⟨by rw [Hz.out]; rfl, Below.refl _ _⟩
  · have hI : ¬ (60 : Int) < (l.length : Int) := by omega
    go_wp2
    go_loopw [9] (fun iv wr => ∃ i : Nat, i ≤ l.length ∧ iv = .int .i64 i ∧ Hid (∀ j x, j < i → l[j]? = some x → x.b.length ≤ 500) ∧ wr = w) (fun i _ => l.length - (intOf i).toNat)
    case atStart => exact ⟨0, Nat.zero_le _, rfl, hid (fun j x hj => absurd hj (Nat.not_lt_zero _)), rfl⟩
    case round =>
      obtain ⟨i, hi, rfl, hs, rfl⟩ := hrel
      by_cases hlt : i < l.length
      · have hI2 : (i : Int) < (l.length : Int) := by omega
        obtain ⟨x, hx⟩ : ∃ x, l[i]? = some x := ⟨_, List.getElem?_eq_getElem hlt⟩
        obtain ⟨g, off, cs, rfl, _, hrg, hel⟩ := wd_el h hx
        obtain ⟨u, rfl, hu⟩ := at_open hel
        obtain ⟨Au, cu, rfl⟩ := Rd.shape hu
        have c7 : wr.cell? ⟨g, off + i * 2 + 1, none⟩ = some (.slice Au x.b.length cu) := hrg 1 _ rfl
        have Hx := hid hx
        clear hx hrg hel hu
        by_cases h2 : 500 < x.b.length
        · have hI3 : (500 : Int) < (x.b.length : Int) := by omega
          have Hz : Hid (Z = true) := HZ.out.trans (decide_eq_true (.inr ⟨x, List.mem_of_getElem? Hx.out, h2⟩))
          clear HZ
          go_wp2
          go_ret
          exact ⟨by rw [Hz.out]; rfl, Below.refl _ _⟩
        · have hI3 : ¬ (500 : Int) < (x.b.length : Int) := by omega
          have Hs := hid (fun j y (hj : j < i + 1) (hy : l[j]? = some y) => show y.b.length ≤ 500 from by
            rcases Nat.lt_or_ge j i with h' | h'
            · exact hs.out j y h' hy
            · have e : j = i := by omega
              subst e
              have := hy.symm.trans Hx.out
              injection this with this
              subst this
              omega)
          go_wp2
          go_roundw
          case rel => exact ⟨i + 1, by omega, by go_num, Hs, by trivial⟩
          case measure => simp [intOf]; omega
      · have hi' : i = l.length := by omega
        subst hi'
        have hI2 : ¬ (l.length : Int) < (l.length : Int) := by omega
        have Hz : Hid (Z = false) := HZ.out.trans (decide_eq_false (fun h' => by
          rcases h' with h' | ⟨x, hx, h'⟩
          · omega
          · obtain ⟨j, hj⟩ := List.mem_iff_getElem?.1 hx
            have hjl : j < l.length := by
              rcases Nat.lt_or_ge j l.length with h | h
              · exact h
              · rw [List.getElem?_eq_none h] at hj; cases hj
            have := hs.out j x hjl hj
            omega))
        clear HZ
        go_wp2
        go_ret
        exact ⟨by rw [Hz.out]; rfl, Below.refl _ _⟩
end Go.Proofs.YtmjpkdehkdpdpaaDoor
/- Kw: layer 18, pure: what the laws' wakes tell. No project text. -/
namespace Go.Proofs.YtmjpkdehkdpdpaaDoor
open Go.RowKit Go.V
def h9 : List UInt8 := 9 :: List.replicate 31 0
def mV (i : Nat) : Mg := ⟨2, (i : Int), 0, 0, 1, h9, [], []⟩
theorem mV_in {i : Nat} (h : i < 3) : MgIn (mV i) := ⟨by show in64w 2; unfold in64w; omega, by show in64w (i : Int); unfold in64w; omega, by show in64w 0; unfold in64w; omega, by show in64w 0; unfold in64w; omega, by show in64w 1; unfold in64w; omega, rfl⟩
theorem mV_sm (i : Nat) : MgSm (mV i) := ⟨by show 0 ≤ 1000000; omega, by show 0 ≤ 1000; omega, by intro t ht; cases ht⟩
theorem mV_err {i : Nat} (h : i < 3) : errS ks17 (mV i) = 0 := by
  match i, h with
  | 0, _ => rw [errS_M rfl (by decide)]; decide
  | 1, _ => rw [errS_M rfl (by decide)]; decide
  | 2, _ => rw [errS_M rfl (by decide)]; decide
  | i + 3, h => exact absurd h (by omega)
def sV18 (i : Nat) : List UInt8 := slS ks17 (mV i)
theorem sV18_len {i : Nat} (h : i < 3) : (sV18 i).length ≤ 100 := by
  unfold sV18 slS
  rw [List.length_append, len_tag, len_by2 rfl]
  match i, h with
  | 0, _ => decide
  | 1, _ => decide
  | 2, _ => decide
  | i + 3, h => exact absurd h (by omega)
theorem has18 (i : Nat) (h : i < 3) : hasB 15 (i : Int) = true := by
  unfold hasB
  rw [Bool.and_eq_true, decide_eq_true_eq, Int.toNat_natCast]
  refine ⟨by omega, ?_⟩
  have : ∀ j : Fin 3, mbit 15 j.val = true := by decide +kernel
  exact this ⟨i, h⟩
theorem tl_W {i : Nat} (h : i < 3) : tlC ks17 ⟨0, 15⟩ 1 (sV18 i) = .ok (mV i) := by
  have h1 := op_sl (ks := ks17) (m := mV i) rfl (mV_err h)
  have hb : hasB 15 (mV i).f = true := has18 i h
  have h2 : opOf ks17 ⟨0, 15⟩ (sV18 i) = .ok (mV i) := by
    unfold opOf sV18
    rw [h1]
    exact if_pos hb
  unfold tlC
  rw [h2]
  rfl
def lW (i : Nat) : List Nv := (List.range i).map (fun j => ⟨mV j, sV18 j⟩)
theorem lW_next (i : Nat) : lW (i + 1) = lW i ++ [⟨mV i, sV18 i⟩] := by unfold lW; rw [List.range_succ, List.map_append]; rfl
theorem tk_W {i : Nat} (h : i < 3) : tkE ks17 ⟨0, 15⟩ 1 (lW i) (sV18 i) = 0 ∧ tkL ks17 ⟨0, 15⟩ 1 (lW i) (sV18 i) = lW (i + 1) := by
  have hno : (lW i).any (sameV (mV i)) = false := by
    cases ha : (lW i).any (sameV (mV i)) with
    | false => rfl
    | true =>
      obtain ⟨v, hv, hs⟩ := List.any_eq_true.1 ha
      unfold lW at hv
      obtain ⟨j, hj, rfl⟩ := List.mem_map.1 hv
      have hj := List.mem_range.1 hj
      have hs := (of_decide_eq_true hs).1
      have hs : (j : Int) = (i : Int) := hs
      omega
  unfold tkE tkL
  rw [tl_W h]
  show (if (lW i).any (sameV (mV i)) = true then 7 else 0) = 0 ∧ (if (lW i).any (sameV (mV i)) = true then lW i else lW i ++ [⟨mV i, sV18 i⟩]) = _
  rw [hno, lW_next]
  exact ⟨rfl, rfl⟩
theorem lW_in : ∀ i, i ≤ 3 → NvIn ks17 ⟨0, 15⟩ 1 (lW i)
  | 0, _ => NvIn.nil _ _ _
  | i + 1, h => by
    rw [← (tk_W (i := i) (by omega)).2]
    exact tk_in (lW_in i (by omega)) _
theorem mem_W (i : Nat) : (lW 3).any (isV 2 0 h9 i) = decide (i < 3) := by
  rw [Bool.eq_iff_iff, List.any_eq_true, decide_eq_true_eq]
  constructor
  · rintro ⟨v, hv, hp⟩
    unfold lW at hv
    obtain ⟨j, hj, rfl⟩ := List.mem_map.1 hv
    have hj := List.mem_range.1 hj
    have hp : (j : Int) = (i : Int) := (of_decide_eq_true hp).1
    omega
  · intro hi
    refine ⟨⟨mV i, sV18 i⟩, ?_, decide_eq_true ⟨rfl, rfl, rfl, rfl⟩⟩
    unfold lW
    exact List.mem_map.2 ⟨i, List.mem_range.2 hi, rfl⟩
theorem for_W : (forC (lW 3) 2 0 h9).length = 3 := by
  rw [for_len]
  unfold memC
  rw [show (fun i => (lW 3).any (isV 2 0 h9 i)) = (fun i => decide (i < 3)) from funext mem_W]
  rfl
theorem mst_W : mstC ⟨0, 15⟩ (lW 3) 2 0 = some h9 := by
  rw [mst_iff (lW_in 3 (Nat.le_refl _))]
  unfold enfC
  rw [decide_eq_true_eq, for_W]
  decide +kernel
end Go.Proofs.YtmjpkdehkdpdpaaDoor
/- Ks: layer 18: the laws' wakes. -/
namespace Go.Proofs.YtmjpkdehkdpdpaaDoor
open Go.RowKit Go.V
theorem bldV18 : ∀ W : World, (Instr.build 24 #[(1, .int .u16 15)]).run Tryd.prog W = .ok (.agg #[.int .i64 0, .int .u16 15]) W := fun _ => by kernel_rfl
theorem bldH18 : ∀ W : World, (Instr.build 41 #[(0, .int .u8 9)]).run Tryd.prog W = .ok (.agg (bvs h9).toArray) W := fun _ => by kernel_rfl
theorem bldW18 (f : Int) : ∀ W : World, (Instr.build 59 #[(0, .int .i64 2), (1, .int .i64 f), (4, .int .i64 1), (5, .agg (bvs h9).toArray)]).run Tryd.prog W = .ok (.agg ((⟨2, f, 0, 0, 1, h9, [], []⟩ : Mg).l (.slice none 0 0) (.slice none 0 0)).toArray) W := fun _ => by kernel_rfl
theorem eqlH18 : ∀ W : World, (Go.binOp BinOp.eql 41 (.agg (bvs h9).toArray) (.agg (bvs h9).toArray)).run Tryd.prog W = .ok (.bool true) W := fun _ => by kernel_rfl
theorem wriS18 (v : Value) (M N : Nat → Prop) (w : World) (hKS : KS w) (h : NX w v M N ks17 ⟨0, 15⟩ 1 (lW 3)) :
    Calls Tryd.prog 12 #[v, .int .i64 0] w fun e w' => ∃ A c, e = .returned (.tuple #[.agg (bvs h9).toArray, .slice A 3 c, .bool true]) ∧ Below w.heap.size w w' := by
  have := iwritten18_any v M N ks17 ⟨0, 15⟩ 1 (lW 3) 0 w hKS (by unfold in64w; decide) h
  rw [mst_W] at this
  refine this.mono ?_
  rintro e w' ⟨u, rfl, hu, hB⟩
  have hu : Rd w' _ u (tx (forC (lW 3) 2 0 h9)) := hu
  obtain ⟨A, c, rfl, _, _⟩ := hu.slShape
  rw [for_W]
  exact ⟨A, c, rfl, hB⟩
set_option maxRecDepth 100000 in
set_option maxHeartbeats 8000000 in
theorem wakes18_any (w : World) (hK : KS w) :
    Calls Tryd.prog 7 #[] w fun e w' => e = .returned (.bool true) ∧ Below w.heap.size w w' := by
  have hbv := bldV18
  go_enter Tryd.func7, Tryd.ntmps7
  go_wp2_with (fail)
  refine (table18_any _).mono ?_
  rintro e w1 ⟨uk, rfl, hk, hB⟩
  have Hin : Hid (Calls Tryd.prog 9 #[.agg #[uk, .slice none 0 0], .agg #[.int .i64 0, .int .u16 15], .int .i64 1] w1 fun e w' => ∃ v M, e = .returned v ∧ NX w' v M (fun b => w.heap.size ≤ b ∧ b < w1.heap.size) ks17 ⟨0, 15⟩ 1 [] ∧ (∀ b, M b → w1.heap.size ≤ b) ∧ Below w1.heap.size w1 w') :=
    hid (inew18_any ks17 ⟨0, 15⟩ 1 uk (.slice none 0 0) _ w1 (hK.below hB) ks17_sm hk ⟨by unfold in64w; decide, by decide⟩ (by unfold in64w; decide))
  go_wp2_with (refine wp_bld 24 [(1, .const (.int .u16 15))] rfl rfl [(1, .int .u16 15)] rfl hbv ?_)
  refine (Hin.out).mono ?_
  rintro e w2 ⟨xv, M0, rfl, hx, hM0, hB2⟩
  have hs1 := hB.size
  have hM0 : ∀ b, M0 b → w.heap.size ≤ b := fun b h => Nat.le_trans hs1 (hM0 b h)
  have hB := hB.trans (hB2.mono hB.size)
  obtain ⟨N, hN⟩ : ∃ N : Nat → Prop, N = fun b => w.heap.size ≤ b ∧ b < w1.heap.size := ⟨_, rfl⟩
  rw [← hN] at hx
  clear hN Hin hB2 hk hs1 hbv
  go_wp2
  go_loopw [11] (fun iv wr => ∃ (i : Nat) (M : Nat → Prop), i ≤ 3 ∧ iv = .int .i64 i ∧ Hid (NX wr xv M N ks17 ⟨0, 15⟩ 1 (lW i) ∧ ∀ b, M b → w.heap.size ≤ b) ∧ Below w.heap.size w wr) (fun i _ => 3 - (intOf i).toNat)
  case atStart => exact ⟨0, M0, by omega, rfl, hid ⟨hx, hM0⟩, hB⟩
  case round =>
    clear hx hM0 hB
    obtain ⟨i, M, hi, rfl, Hx, hBr⟩ := hrel
    have hKr := hK.below hBr
    by_cases hlt : i < 3
    · have hI : (i : Int) < 3 := by omega
      have hsl := sV18_len hlt
      have hbm := bldW18 (i : Int)
      have hbh := bldH18
      have hse : ∀ (uk : Value) (Y : World), KS Y → Rd Y (fun b => wr.heap.size ≤ b) uk (tx ks17) → Calls Tryd.prog 18 #[.agg #[uk, .slice none 0 0], .agg ((⟨2, (i : Int), 0, 0, 1, h9, [], []⟩ : Mg).l (.slice none 0 0) (.slice none 0 0)).toArray] Y fun e w' => ∃ v', e = .returned (.tuple #[v', .int .i64 0]) ∧ NewB Y w' v' (sV18 i) := by
        intro uk Y h1 h2
        have := seal9_any ks17 (mV i) uk (.slice none 0 0) (.slice none 0 0) (.slice none 0 0) _ nob nob Y h1 (mV_in hlt) (mV_sm i) ks17_sm h2 (Rd.nil _ _) (Rd.nil _ _)
        rw [mV_err hlt, if_pos rfl] at this
        exact this
      have Hse := hid hse
      have htk : ∀ (u : Value) (F : Nat → Prop) (Y : World), KS Y → NX Y xv M N ks17 ⟨0, 15⟩ 1 (lW i) → Rd Y F u (bys (sV18 i)) → Calls Tryd.prog 11 #[xv, u] Y fun e w' => e = .returned (.int .i64 0) ∧ ∃ M', NP Y M w' xv N ks17 ⟨0, 15⟩ 1 (lW (i + 1)) M' := by
        intro u F Y h1 h2 h3
        have := itake18_any xv M N ks17 ⟨0, 15⟩ 1 (lW i) (sV18 i) u F Y h1 ks17_sm h2 h3 (by omega)
        rw [(tk_W hlt).1, (tk_W hlt).2] at this
        exact this
      have Htk := hid htk
      obtain ⟨lm, hlm⟩ : ∃ l, l = (⟨2, (i : Int), 0, 0, 1, h9, [], []⟩ : Mg).l (.slice none 0 0) (.slice none 0 0) := ⟨_, rfl⟩
      rw [← hlm] at hbm Hse
      obtain ⟨lh, hlh⟩ : ∃ l, l = bvs h9 := ⟨_, rfl⟩
      rw [← hlh] at hbm hbh
      obtain ⟨S, hS⟩ : ∃ S, S = sV18 i := ⟨_, rfl⟩
      rw [← hS] at Hse Htk hsl
      clear hlm hlh hS hse htk
      go_wp2_with (fail)
      refine (table18_any _).mono ?_
      rintro e w3 ⟨uk3, rfl, hk3, hB3⟩
      have hBr3 := hBr.trans (hB3.mono hBr.size)
      go_wp2_with (first | refine wp_bld 41 [(0, .const (.int .u8 9))] rfl rfl [(0, .int .u8 9)] rfl hbh ?_ | refine wp_bld 59 [(0, .const (.int .i64 2)), (1, .tmp 16), (4, .const (.int .i64 1)), (5, .tmp 17)] rfl rfl [(0, .int .i64 2), (1, .int .i64 (i : Int)), (4, .int .i64 1), (5, .agg lh.toArray)] rfl hbm ?_)
      refine (Hse.out uk3 _ (hKr.below hB3) hk3).mono ?_
      rintro e w4 ⟨v4, rfl, ho4, hB4⟩
      have hv4 := (Rd.of_own ho4)
      obtain ⟨A4, c4, rfl⟩ := own_shape ho4
      have hB34 := hB3.trans (hB4.mono hB3.size)
      have hBr4 := hBr.trans (hB34.mono hBr.size)
      have hx4 := Hx.out.1.below hB34
      have hM4 := Hx.out.2
      clear hB3 hB4 hBr3 ho4 Hse hbm hbh hk3
      go_wp2_with (fail)
      refine (Htk.out _ _ _ (hKr.below hB34) hx4 hv4).mono ?_
      rintro e w5 ⟨rfl, M5, hP⟩
      have hB5 := Ch.below_of hBr4 hP.c hM4 hBr4.size
      have hM5 : ∀ b, M5 b → w.heap.size ≤ b := fun b h => by
        rcases hP.m b h with h | h
        · exact hM4 b h
        · have := hBr4.size; omega
      have hx5 := hP.x
      clear hP Htk hv4
      go_wp2
      go_roundw
      case rel => exact ⟨i + 1, M5, by omega, by go_num, hid ⟨hx5, hM5⟩, hB5⟩
      case measure => simp [intOf]; omega
    · have hi' : i = 3 := by omega
      subst hi'
      have hI : ¬ (3 : Int) < 3 := by omega
      have Hws := hid (wriS18 xv M N wr hKr Hx.out.1)
      have heq := eqlH18
      obtain ⟨lh, hlh⟩ : ∃ l, l = bvs h9 := ⟨_, rfl⟩
      have Lh : Hid (lh.length = 32) := hid (by rw [hlh]; rfl)
      have Oh : Hid (∀ v ∈ lh, v.oneCell' = true) := hid (by rw [hlh]; exact oneCell_bvs _)
      have hbh := bldH18
      rw [← hlh] at Hws heq hbh
      clear hlh
      go_wp2_with (fail)
      refine (Hws.out).mono ?_
      rintro e w6 ⟨A6, c6, rfl, hB6⟩
      have hBz := hBr.trans (hB6.mono hBr.size)
      go_wp2_with (refine wp_newst 41 5 (.tmp 30) rfl rfl rfl rfl rfl rfl zero25 (l := lh) rfl (by rw [Lh.out]; rfl) (by rw [Lh.out]; exact size25) Oh.out (by simp [Act.put]) ?_; intro w7 b7 hB7 hs7; refine wp_stop ?_)
      have hBz := hBz.trans (hB7.mono hBz.size)
      refine wp_go ?_
      go_wp2_with (first | refine wp_ldg 41 (.tmp 5) (by rfl) rfl rfl b7.whole Tryd.underlying41 rfl (by rw [Lh.out]; exact size25) ?_ | refine wp_bldw 41 [(0, .const (.int .u8 9))] (by rfl) rfl [(0, .int .u8 9)] rfl hbh ?_)
      go_ret
      exact ⟨by simp, hBz⟩
end Go.Proofs.YtmjpkdehkdpdpaaDoor
