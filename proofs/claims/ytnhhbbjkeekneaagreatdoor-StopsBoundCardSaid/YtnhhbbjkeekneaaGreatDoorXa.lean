/- Xa: several texts in one (NS NU Xa). -/
import Derived.Test.YtnhhbbjkeekneaaGreatDoorCo
import Derived.Test.YtnhhbbjkeekneaaGreatDoorOT
import Derived.Test.YtnhhbbjkeekneaaGreatDoorVE
import Derived.Test.YtnhhbbjkeekneaaGreatDoorS3
import Derived.Lib.MinMax
import Derived.Deep.RegionHeld3
import Derived.Test.YtnhhbbjkeekneaaGreatDoorVA
/- NS: contract of copies.Seals; the seals that may be asked. -/
namespace Go.Proofs.YtnhhbbjkeekneaaGreatDoor
open Go.RowKit Go.V
/-! of the keys those that may be asked -/
theorem op_cut (ks : List (List UInt8)) (X : List UInt8) : opR (ks.take 16) X = opR ks X := by
  unfold opR
  split
  · rfl
  · split
    · rfl
    · split
      · rfl
      · rename_i m hm
        have h15 : 0 ≤ m.f ∧ m.f ≤ 15 := by
          have := rdM_num hm
          unfold numB at this
          have := of_decide_eq_true this
          omega
        have e1 : ((ks.take 16).length : Int) ≤ m.f ↔ (ks.length : Int) ≤ m.f := by rw [List.length_take]; omega
        have e2 : keyOf (ks.take 16) m = keyOf ks m := by
          unfold keyOf
          rw [List.getD_eq_getElem?_getD, List.getD_eq_getElem?_getD, List.getElem?_take, if_pos (by omega)]
        simp only [e1, e2]
theorem opof_cut (ks : List (List UInt8)) (V : Vc) (X : List UInt8) : opOf (ks.take 16) V X = opOf ks V X := by
  unfold opOf
  rw [op_cut]
theorem KsSm.cut {ks : List (List UInt8)} (h : KsSm ks) : KsSm (ks.take 16) := ⟨by rw [List.length_take]; have := h.n; omega, fun k hk => h.t k (List.mem_of_mem_take hk)⟩
theorem OT.fresh18 {w w' : World} {e e' : TypeId} {base n : Nat} {av v : Value} {l : List (List UInt8)} {us : List Value} {X : List UInt8} (h : OT w e base nob av l us) (ho : w'.ownsRow w.heap.size e' 1 v n (bvs X)) (hb : base ≤ w.heap.size) : Rd w' (fun b => base ≤ b ∧ ¬ nob b ∧ av.ownBlock ≠ some b) v (bys X) :=
  (Rd.of_own ho).weak (fun b _ (h2 : w.heap.size ≤ b) => ⟨by omega, fun h => h, fun e => by have := (h.own.lt b e).2; omega⟩)
theorem bldKs18 (A : Option Addr) (n c : Nat) : ∀ W : World, (Instr.build 40 #[(0, .slice A n c)]).run Tryz.prog W = .ok (.agg #[.slice A n c, .slice none 0 0]) W := fun _ => by kernel_rfl
def zKsN : List Value := [.slice none 0 0, .slice none 0 0]
theorem zeroKsN : (Tryz.prog.info? 40).map (·.zero) = some (some (.agg zKsN.toArray)) := by kernel_rfl
set_option maxRecDepth 100000 in
set_option maxHeartbeats 4000000 in
theorem seals18_any (ks : List (List UInt8)) (uk ur : Value) (F : Nat → Prop) (w : World) (hks : KsSm ks) (hk : Rd w F uk (tx ks)) :
    Calls Tryz.prog 32 #[.agg #[uk, ur]] w fun e w' => ∃ v', e = .returned (.agg #[v', .slice none 0 0]) ∧ Rd w' (fun b => w.heap.size ≤ b) v' (tx (ks.take 16)) ∧ Below w.heap.size w w' := by
  obtain ⟨A, c, rfl, hcA, hcm⟩ := hk.slShape
  obtain ⟨K, hK⟩ : ∃ K, K = ks.take 16 := ⟨_, rfl⟩
  have hKl : K.length = min ks.length 16 := by rw [hK, List.length_take]; omega
  have hKm := hid (fun X (hX : X ∈ K) => hks.t X (List.mem_of_mem_take (by rw [hK] at hX; exact hX)))
  have hmn := fun (W : World) (ts : Array TypeId) (t : TypeId) => Lib.run_min_ints (P := Tryz.prog) W ts t .i64 .i64 (ks.length : Int) 16
  have hme : min (ks.length : Int) 16 = (K.length : Int) := by omega
  have hcut := fun W => run_cut_h slBB8 A ks.length c (K.length : Int) (by omega) (by omega) W
  have hp : Rd w F (sliced A 0 K.length c 1) (tx K) := by
    have := Rd.piece (ds := ks.map bys) hk (by simp) (l := 0) (m := K.length) (by omega) (by omega)
    rw [List.drop_zero, Nat.sub_zero] at this
    have e1 : (ks.map bys).take K.length = K.map bys := by
      rw [hKl, ← List.map_take, hK, ← List.take_take, List.take_of_length_le (by rw [List.length_take]; omega)]
    rw [e1] at this
    exact this
  rw [Int.toNat_natCast] at hcut
  obtain ⟨A', c', hs', _, _⟩ := hp.slShape
  rw [hs'] at hp hcut
  rw [hme] at hmn
  have Hmn := hid hmn
  have Hcut := hid hcut
  clear hmn hcut hs' hme hcA hcm
  rw [← hK]
  obtain ⟨W1, hW1⟩ : ∃ x, x = w.alloc (.cells #[.slice A ks.length c, ur] 40) := ⟨_, rfl⟩
  have b1 : Blk W1 w.heap.size 40 [.slice A ks.length c, ur] := by rw [hW1]; exact Blk.new' w 40 _
  have hs1 : W1.heap.size = w.heap.size + 1 := by rw [hW1]; simp
  have hB1 : Below w.heap.size w W1 := by rw [hW1]; exact (Below.refl _ _).alloc (Nat.le_refl _) _
  obtain ⟨W0, hW0⟩ : ∃ x, x = W1.alloc (.cells zKsN.toArray 40) := ⟨_, rfl⟩
  have b2 : Blk W0 (w.heap.size + 1) 40 zKsN := by rw [hW0, ← hs1]; exact Blk.new' W1 40 _
  have hB2 : Below W1.heap.size W1 W0 := by rw [hW0]; exact (Below.refl _ _).alloc (Nat.le_refl _) _
  have b1 := b1.below hB2
  have hB0 := hB1.trans (hB2.mono hB1.size)
  have hp := hp.below hB0
  have c0 := b1.cellAt 0 _ rfl
  obtain ⟨g2, hg2⟩ : ∃ g, g = w.heap.size + 1 := ⟨_, rfl⟩
  rw [← hg2] at b2
  have hg2w : w.heap.size ≤ g2 := by omega
  have hg2l := b2.lt
  have hOT := OT.nil W0 33 W0.heap.size nob
  have hs0 := hB0.size
  have hK16 : K.length ≤ 16 := by omega
  clear hK hk hKl hks b1 hB1 hB2
  go_enter Tryz.func32, Tryz.ntmps32
  go_wp2_with (first | (refine wp_new 40 rfl rfl zeroKsN ?_; refine wp_stop ?_))
  rw [← hW1, ← hW0]
  rw [← hg2]
  clear hW0 hg2 hW1 hs1
  refine wp_go ?_
  have hmn := Hmn.out
  have hcut := Hcut.out
  go_wp2
  clear c0 hmn hcut
  go_loopw [3, 14] (fun ov iv wr => ∃ (i : Nat) (us' : List Value), i ≤ K.length ∧ iv = .int .i64 i ∧ OT wr 33 W0.heap.size nob ov (K.take i) us' ∧ Below W0.heap.size W0 wr) (fun _ i _ => K.length - (intOf i).toNat)
  case atStart => exact ⟨0, [], by omega, rfl, hOT, Below.refl _ _⟩
  case round =>
    clear hOT
    obtain ⟨i, us', hi, rfl, hOT, hBr⟩ := hrel
    have hszr := hBr.size
    have hp := hp.below hBr
    by_cases hlt : i < K.length
    · have hI : (i : Int) < (K.length : Int) := by omega
      obtain ⟨X, hX⟩ : ∃ X, K[i]? = some X := ⟨_, List.getElem?_eq_getElem hlt⟩
      have hXl := hKm.out X (List.mem_of_getElem? hX)
      have Hnx : Hid (K.take (i + 1) = K.take i ++ [X]) := hid (by rw [List.take_add_one, hX]; rfl)
      obtain ⟨gp, offp, u, hAp, _, hcu, hu⟩ := Rd.elem hp i (bys X) (by rw [List.getElem?_map, hX]; rfl)
      subst hAp
      obtain ⟨Au, cu, rfl⟩ := hu.shape
      have hDl : (K.take i).length = i := by rw [List.length_take]; omega
      obtain ⟨D, hD⟩ : ∃ D, D = K.take i := ⟨_, rfl⟩
      rw [← hD] at hOT Hnx hDl
      clear hX hD hp
      go_wp2_with (fail)
      refine (bclone_any X _ _ _ hu (by omega)).mono ?_
      rintro e w5 ⟨v5, rfl, ho5, hB5⟩
      obtain ⟨A5, c5, rfl⟩ := own_shape ho5
      have hv5 := OT.fresh18 hOT ho5 hszr
      have hOT := hOT.ch (G := nob) (Ch.of_below hB5) (fun b hb => hb.elim)
      have hBr := hBr.trans (hB5.mono hszr)
      have hszr := hBr.size
      clear hB5 hu hcu
      go_wp2_with (first | (refine wp_push (.tmp 18) (.tmp 20) 21 slBB8 rfl rfl rfl rfl rfl (u := .slice A5 X.length c5) rfl rfl rfl (by simp) rfl hOT.own (by rw [hDl]; simp only [maxLen]; omega) (by rw [hDl]; omega) hszr ?_; intro v6 w6 ho6 hG6 hd6; refine wp_stop ?_))
      have hBr := hBr.grown hG6 hszr (fun k hk => (hOT.own.lt k hk).1)
      have hOT := OT.pushG hOT hv5 (fun b h => h.elim) ho6 hG6 hd6
      refine wp_go ?_
      go_wp2
      go_roundw
      case rel => exact ⟨i + 1, _, by omega, by go_num, by rw [Hnx.out]; exact hOT, hBr⟩
      case measure => simp [intOf]; omega
    · have hI : ¬ (i : Int) < (K.length : Int) := by omega
      have htk : K.take i = K := List.take_of_length_le (by omega)
      rw [htk] at hOT
      have hfin := hOT.rd
      obtain ⟨Ao, co, rfl⟩ := own_shape hOT.own
      have hBe := hB0.trans (hBr.mono hs0)
      have b2r := b2.below hBr
      have hszr2 := hBr.size
      clear htk hp b2
      go_wp2_with (first | (refine wp_bld 40 [(0, .tmp 24)] rfl rfl [(0, .slice Ao K.length co)] rfl (bldKs18 _ _ _) ?_) | (refine wp_st 40 (.tmp 2) (.tmp 25) rfl rfl rfl (f := 0) rfl (l := [.slice Ao K.length co, .slice none 0 0]) rfl b2r (by exact Nat.le_refl _) sizeKs17 (by intro v hv; simp only [List.mem_cons, List.not_mem_nil, or_false] at hv; rcases hv with rfl | rfl <;> rfl) ?_; intro w9 hd9 hG9; refine wp_stop ?_))
      rw [set_all zKsN [.slice Ao K.length co, .slice none 0 0] rfl] at hd9
      refine wp_go ?_
      go_wp2
      refine ret_cell rfl rfl hd9.whole Tryz.underlying40 rfl sizeKs17 rfl ?_
      have hk9 : Rd w9 (fun b => W0.heap.size ≤ b) (.slice Ao K.length co) (tx K) := hfin.keep (fun b _ h => ⟨h, hG9.block b (by assumption) (fun e => by injection e with e; omega)⟩)
      exact ⟨_, rfl, hk9.weak (fun b _ h => Nat.le_trans hs0 h), hBe.grown hG9 hBe.size (by intro k hk; injection hk with hk; omega)⟩
end Go.Proofs.YtnhhbbjkeekneaaGreatDoor
/- NU: words in an array, one a regency. -/
namespace Go.Proofs.YtnhhbbjkeekneaaGreatDoor
open Go.RowKit Go.V
def u16s (T : List Nat) : List Value := T.map fun (S : Nat) => .int .u16 (S : Int)
theorem len_u16s (T : List Nat) : (u16s T).length = T.length := by simp [u16s]
theorem u16s_at {T : List Nat} {r S : Nat} (h : T[r]? = some S) : (u16s T)[r]? = some (.int .u16 (S : Int)) := by simp [u16s, h]
theorem set_u16s (T : List Nat) (r S : Nat) : (u16s T).set r (.int .u16 (S : Int)) = u16s (T.set r S) := by simp [u16s, List.map_set]
theorem size41 : (Tryz.prog.info? 82).map (·.size) = some 41 := by kernel_rfl
theorem sizeU16 : (Tryz.prog.info? 22).map (·.size) = some 1 := by kernel_rfl
end Go.Proofs.YtnhhbbjkeekneaaGreatDoor
/- Xa: layer 19: stops in memory. -/
namespace Go.Proofs.YtnhhbbjkeekneaaGreatDoor
open Go.RowKit Go.V
/-- the cells of stops -/
def sC (uk : Value) (V : Vc) (T : List Nat) : List Value := [uk, .slice none 0 0, .int .i64 V.n, .int .u16 (V.m : Int)] ++ u16s T
/-- stops at p; F: what their keys read -/
structure SM (w : World) (p : Nat) (uk : Value) (F : Nat → Prop) (ks : List (List UInt8)) (V : Vc) (W T : List Nat) : Prop where
  blk : Blk w p 84 (sC uk V T)
  keys : Rd w F uk (tx (ks.take 16))
  wd : WdS W T
  len : W.length = 16
  vb : V.m < 65536
  f : ∀ x, F x → x ≠ p ∧ x < w.heap.size
theorem SM.keep {w w' : World} {p : Nat} {uk : Value} {F : Nat → Prop} {ks : List (List UInt8)} {V : Vc} {W T : List Nat} (h : SM w p uk F ks V W T) (hs : w.heap.size ≤ w'.heap.size) (hk : ∀ x, x = p ∨ F x → w'.heap[x]? = w.heap[x]?) : SM w' p uk F ks V W T :=
  ⟨h.blk.keep (hk p (.inl rfl)), h.keys.keep (fun x _ hx => ⟨hx, hk x (.inr hx)⟩), h.wd, h.len, h.vb, fun x hx => ⟨(h.f x hx).1, Nat.lt_of_lt_of_le (h.f x hx).2 hs⟩⟩
theorem SM.lt {w : World} {p : Nat} {uk : Value} {F : Nat → Prop} {ks : List (List UInt8)} {V : Vc} {W T : List Nat} (h : SM w p uk F ks V W T) {x : Nat} (hx : x = p ∨ F x) : x < w.heap.size := by
  rcases hx with rfl | hx
  · exact h.blk.lt
  · exact (h.f x hx).2
theorem SM.below {w w' : World} {p : Nat} {uk : Value} {F : Nat → Prop} {ks : List (List UInt8)} {V : Vc} {W T : List Nat} (h : SM w p uk F ks V W T) (hB : Below w.heap.size w w') : SM w' p uk F ks V W T := h.keep hB.size (fun x hx => hB.block x (h.lt hx))
/-- stops at v, in blocks M -/
def SX (w : World) (v : Value) (M N : Nat → Prop) (ks : List (List UInt8)) (V : Vc) (W : List Nat) : Prop :=
  (∀ b, N b → b < w.heap.size) ∧ ∃ (p : Nat) (uk : Value) (F : Nat → Prop) (T : List Nat), v = .pointer (some ⟨p, 0, none⟩) ∧ SM w p uk F ks V W T ∧ ∀ x, M x ↔ x = p ∨ F x
theorem SX.lt {w : World} {v : Value} {M N : Nat → Prop} {ks : List (List UInt8)} {V : Vc} {W : List Nat} (h : SX w v M N ks V W) : ∀ b, M b ∨ N b → b < w.heap.size := by
  obtain ⟨hN, p, uk, F, T, _, hm, hM⟩ := h
  rintro b (hb | hb)
  · exact hm.lt ((hM b).1 hb)
  · exact hN b hb
theorem SX.len {w : World} {v : Value} {M N : Nat → Prop} {ks : List (List UInt8)} {V : Vc} {W : List Nat} (h : SX w v M N ks V W) : W.length = 16 := by
  obtain ⟨_, p, uk, F, T, _, hm, _⟩ := h
  exact hm.len
theorem SX.keep {w w' : World} {v : Value} {M N : Nat → Prop} {ks : List (List UInt8)} {V : Vc} {W : List Nat} (h : SX w v M N ks V W) (hs : w.heap.size ≤ w'.heap.size) (hk : ∀ b, M b ∨ N b → w'.heap[b]? = w.heap[b]?) : SX w' v M N ks V W := by
  obtain ⟨hN, p, uk, F, T, hv, hm, hM⟩ := h
  exact ⟨fun b hb => Nat.lt_of_lt_of_le (hN b hb) hs, p, uk, F, T, hv, hm.keep hs (fun x hx => hk x (.inl ((hM x).2 hx))), hM⟩
theorem SX.below {w w' : World} {v : Value} {M N : Nat → Prop} {ks : List (List UInt8)} {V : Vc} {W : List Nat} (h : SX w v M N ks V W) (hB : Below w.heap.size w w') : SX w' v M N ks V W := h.keep hB.size (fun b hb => hB.block b (h.lt b hb))
/-- what a Take leaves -/
structure SP (w : World) (M : Nat → Prop) (w' : World) (v : Value) (N : Nat → Prop) (ks : List (List UInt8)) (V : Vc) (W : List Nat) (M' : Nat → Prop) : Prop where
  x : SX w' v M' N ks V W
  m : ∀ b, M' b → M b ∨ w.heap.size ≤ b
  c : Ch M w w'
theorem SP.same {w w' : World} {v : Value} {M N : Nat → Prop} {ks : List (List UInt8)} {V : Vc} {W : List Nat} (h : SX w v M N ks V W) (hB : Below w.heap.size w w') : SP w M w' v N ks V W M := ⟨h.below hB, fun _ h => .inl h, (Ch.refl _ _).belowR hB⟩
theorem len_sC (uk : Value) (V : Vc) {T : List Nat} (h : T.length = 41) : (sC uk V T).length = 45 := by unfold sC; rw [List.length_append, len_u16s, h]; rfl
theorem sC_at {uk : Value} {V : Vc} {T : List Nat} {r S : Nat} (h : T[r]? = some S) : (sC uk V T)[4 + r]? = some (.int .u16 (S : Int)) := by
  unfold sC
  rw [List.getElem?_append_right (by show 4 ≤ 4 + r; omega), show 4 + r - [uk, Value.slice none 0 0, .int .i64 V.n, .int .u16 (V.m : Int)].length = r from by show 4 + r - 4 = r; omega]
  exact u16s_at h
theorem sC_set (uk : Value) (V : Vc) (T : List Nat) (r S : Nat) : (sC uk V T).set (4 + r) (.int .u16 (S : Int)) = sC uk V (T.set r S) := by
  unfold sC
  rw [List.set_append_right _ _ (by show 4 ≤ 4 + r; omega), show 4 + r - [uk, Value.slice none 0 0, .int .i64 V.n, .int .u16 (V.m : Int)].length = r from by show 4 + r - 4 = r; omega, set_u16s]
theorem sC_k {w : World} {p : Nat} {uk : Value} {V : Vc} {T : List Nat} {t : TypeId} (h : Blk w p t (sC uk V T)) : w.rangeAt p 0 [uk, .slice none 0 0] := h.range 0 _ (fun j v hv => by
  match j, hv with
  | 0, hv => exact hv
  | 1, hv => exact hv
  | j + 2, hv => cases hv)
theorem sC_v {w : World} {p : Nat} {uk : Value} {V : Vc} {T : List Nat} {t : TypeId} (h : Blk w p t (sC uk V T)) : w.rangeAt p 2 [.int .i64 V.n, .int .u16 (V.m : Int)] := h.range 2 _ (fun j v hv => by
  match j, hv with
  | 0, hv => exact hv
  | 1, hv => exact hv
  | j + 2, hv => cases hv)
/-- is i in the set? -/
theorem isin19_any (S i : Nat) (w : World) (hS : S < 65536) (hi : i < 16) :
    Calls Tryz.prog 22 #[.int .u16 (S : Int), .int .i64 (i : Int)] w fun e w' => e = .returned (.bool (mbit S i)) ∧ Below w.heap.size w w' := by
  have hbit := bit_eq S i hS
  obtain ⟨b, hb⟩ : ∃ b, b = mbit S i := ⟨_, rfl⟩
  rw [← hb] at hbit ⊢
  clear hb
  go_enter Tryz.func22, Tryz.ntmps22
  go_wp2
  go_ret
  exact ⟨rfl, Below.refl _ _⟩
set_option maxRecDepth 100000 in
set_option maxHeartbeats 4000000 in
/-- how many want it -/
theorem scount19_p (p : Nat) (uk : Value) (F : Nat → Prop) (ks : List (List UInt8)) (V : Vc) (W T : List Nat) (r : Nat) (w : World) (hr : r < 41) (h : SM w p uk F ks V W T) :
    Calls Tryz.prog 18 #[.pointer (some ⟨p, 0, none⟩), .int .i64 (r : Int)] w fun e w' => e = .returned (.int .i64 (cntW W (r : Int) : Int)) ∧ Below w.heap.size w w' := by
  obtain ⟨S, hS⟩ : ∃ S, T[r]? = some S := ⟨_, List.getElem?_eq_getElem (by rw [h.wd.len]; exact hr)⟩
  have hc := h.wd.cnt h.len hS
  have hSl := (h.wd.at_ r S hS).1
  have c4 := h.blk.cellAt (4 + r) _ (sC_at hS)
  have hone := fun Y => ones_any S Y hSl
  rw [← hc]
  have hrI : (r : Int) < 41 := by omega
  have hr0 : ¬ (r : Int) < 0 := by omega
  have hr41 : ¬ (r : Int) ≥ 41 := by omega
  clear h hc hS
  go_enter Tryz.func18, Tryz.ntmps18
  go_wp2_with (fail)
  refine (hone _).mono ?_
  rintro e w1 ⟨rfl, k, rfl⟩
  go_wp2
  go_ret
  exact ⟨rfl, bel_drewN (Below.refl _ _) k⟩
end Go.Proofs.YtnhhbbjkeekneaaGreatDoor
