/- NE: several texts in one (OT NS ND NE). -/
import Derived.Test.YthbbpfnfnnmdnaaDoorVA
import Derived.Test.YthbbpfnfnnmdnaaDoorCA
import Derived.Test.YthbbpfnfnnmdnaaDoorBC
import Derived.Test.YthbbpfnfnnmdnaaDoorI4
import Derived.Test.YthbbpfnfnnmdnaaDoorVE
import Derived.Test.YthbbpfnfnnmdnaaDoorS3
import Derived.Lib.MinMax
import Derived.Deep.RegionHeld3
import Derived.Test.YthbbpfnfnnmdnaaDoorLW
import Derived.Test.YthbbpfnfnnmdnaaDoorCp
import Derived.Deep.DeepCutAuto
import Derived.Great.Walk
/- OT: rows of texts of one's own, beside what else may change. No project text. -/
namespace Go.V
open Go.RowKit
theorem own_keepO {w w' : World} {base : Nat} {e : TypeId} {s : Nat} {v : Value} {n : Nat} {xs : List Value} (h : w.ownsRow base e s v n xs) (hk : ∀ k, k < w.heap.size → v.ownBlock = some k → w'.heap[k]? = w.heap[k]?) : w'.ownsRow base e s v n xs := by
  obtain ⟨h1, h2⟩ := h
  refine ⟨h1, ?_⟩
  rcases h2 with h | ⟨g, cap, cur, rfl, hg, hh, h3⟩
  · exact .inl h
  · exact .inr ⟨g, cap, cur, rfl, hg, (hk g (lt_of_block hh) rfl).trans hh, h3⟩
/-- a row of texts of one's own, that lies beside what else may change (Z) -/
structure OT (w : World) (e : TypeId) (base : Nat) (Z : Nat → Prop) (av : Value) (l : List (List UInt8)) (us : List Value) : Prop where
  own : w.ownsRow base e 1 av l.length us
  x : TxX w (fun b => base ≤ b ∧ ¬ Z b ∧ av.ownBlock ≠ some b) l us
  z : ∀ b, av.ownBlock = some b → ¬ Z b
theorem OT.nil (w : World) (e : TypeId) (base : Nat) (Z : Nat → Prop) : OT w e base Z (.slice none 0 0) [] [] := ⟨World.ownsRow_nil _ _ _ _, TxX.nil _ _, fun b e => by cases e⟩
theorem OT.ch {w w' : World} {e : TypeId} {base : Nat} {Z G : Nat → Prop} {av : Value} {l : List (List UInt8)} {us : List Value} (h : OT w e base Z av l us) (hC : Ch G w w') (hG : ∀ b, G b → Z b ∨ b < base) : OT w' e base Z av l us :=
  ⟨own_keepO h.own (fun k hk e => hC.block k hk (fun hg => (hG k hg).elim (h.z k e) (fun h2 => by have := (h.own.lt k e).1; omega))),
   h.x.keep (fun b hb hF => ⟨hF, hC.block b hb (fun hg => (hG b hg).elim hF.2.1 (fun h2 => by have := hF.1; omega))⟩), h.z⟩
theorem OT.push {w w' : World} {e : TypeId} {base : Nat} {Z : Nat → Prop} {av v' u : Value} {l : List (List UInt8)} {us : List Value} {t : List UInt8} (h : OT w e base Z av l us) (hu : Rd w (fun b => base ≤ b ∧ ¬ Z b ∧ av.ownBlock ≠ some b) u (bys t)) (hZ : ∀ b, Z b → b < w.heap.size)
    (ho : w'.ownsRow base e 1 v' (l.length + 1) (us ++ [u])) (hG : w.grownBy w' av.ownBlock) (hd : v'.ownBlock = av.ownBlock ∨ v'.ownBlock = some w.heap.size) : OT w' e base Z v' (l ++ [t]) (us ++ [u]) := by
  have hk : ∀ b, b < w.heap.size → base ≤ b ∧ ¬ Z b ∧ av.ownBlock ≠ some b → (base ≤ b ∧ ¬ Z b ∧ v'.ownBlock ≠ some b) ∧ w'.heap[b]? = w.heap[b]? := fun b hb h1 =>
    ⟨⟨h1.1, h1.2.1, fun e2 => hd.elim (fun hd => h1.2.2 (by rw [← hd]; exact e2)) (fun hd => by rw [hd] at e2; injection e2 with e2; omega)⟩, hG.block b hb (fun e2 => h1.2.2 e2.symm)⟩
  refine ⟨by rw [List.length_append]; exact ho, (h.x.keep hk).snoc (hu.keep hk), fun b e2 hz => ?_⟩
  rcases hd with hd | hd
  · exact h.z b (by rw [← hd]; exact e2) hz
  · rw [hd] at e2; injection e2 with e2; have := hZ b hz; omega
theorem OT.pushG {w w' : World} {e : TypeId} {base : Nat} {Z : Nat → Prop} {av v' u : Value} {l : List (List UInt8)} {us : List Value} {t : List UInt8} (h : OT w e base Z av l us) (hu : Rd w (fun b => base ≤ b ∧ ¬ Z b ∧ av.ownBlock ≠ some b) u (bys t)) (hZ : ∀ b, Z b → b < w.heap.size)
    (ho : w'.ownsRow base e 1 v' (l.length + 1) (us ++ [u])) (hG : w.grownBy w' av.ownBlock) (hd : v'.ownBlock = av.ownBlock ∨ ∃ g, v'.ownBlock = some g ∧ w.heap.size ≤ g) : OT w' e base Z v' (l ++ [t]) (us ++ [u]) := by
  have hk : ∀ b, b < w.heap.size → base ≤ b ∧ ¬ Z b ∧ av.ownBlock ≠ some b → (base ≤ b ∧ ¬ Z b ∧ v'.ownBlock ≠ some b) ∧ w'.heap[b]? = w.heap[b]? := fun b hb h1 =>
    ⟨⟨h1.1, h1.2.1, fun e2 => hd.elim (fun hd => h1.2.2 (by rw [← hd]; exact e2)) (fun ⟨g, hd, hg⟩ => by rw [hd] at e2; injection e2 with e2; omega)⟩, hG.block b hb (fun e2 => h1.2.2 e2.symm)⟩
  refine ⟨by rw [List.length_append]; exact ho, (h.x.keep hk).snoc (hu.keep hk), fun b e2 hz => ?_⟩
  rcases hd with hd | ⟨g, hd, hg⟩
  · exact h.z b (by rw [← hd]; exact e2) hz
  · rw [hd] at e2; injection e2 with e2; have := hZ b hz; omega
theorem OT.rd {w : World} {e : TypeId} {base : Nat} {Z : Nat → Prop} {av : Value} {l : List (List UInt8)} {us : List Value} (h : OT w e base Z av l us) : Rd w (fun b => base ≤ b) av (tx l) := tx_own h.own h.x (fun _ h => h.1)
end Go.V
/- NS: contract of copies.Seals; the seals that may be asked. -/
namespace Go.Proofs.YthbbpfnfnnmdnaaDoor
open Go.RowKit Go.V
/-! of the keys those that may be asked -/
theorem op_cut (ks : List (List UInt8)) (X : List UInt8) : opR (ks.take 16) X = opR ks X := by
  unfold opR
  split
  · rfl
  · split
    · rfl
    · split
      · rfl
      · rename_i m hm
        have h15 : 0 ≤ m.f ∧ m.f ≤ 15 := by
          have := rdM_num hm
          unfold numB at this
          have := of_decide_eq_true this
          omega
        have e1 : ((ks.take 16).length : Int) ≤ m.f ↔ (ks.length : Int) ≤ m.f := by rw [List.length_take]; omega
        have e2 : keyOf (ks.take 16) m = keyOf ks m := by
          unfold keyOf
          rw [List.getD_eq_getElem?_getD, List.getD_eq_getElem?_getD, List.getElem?_take, if_pos (by omega)]
        simp only [e1, e2]
theorem opof_cut (ks : List (List UInt8)) (V : Vc) (X : List UInt8) : opOf (ks.take 16) V X = opOf ks V X := by
  unfold opOf
  rw [op_cut]
theorem KsSm.cut {ks : List (List UInt8)} (h : KsSm ks) : KsSm (ks.take 16) := ⟨by rw [List.length_take]; have := h.n; omega, fun k hk => h.t k (List.mem_of_mem_take hk)⟩
theorem OT.fresh18 {w w' : World} {e e' : TypeId} {base n : Nat} {av v : Value} {l : List (List UInt8)} {us : List Value} {X : List UInt8} (h : OT w e base nob av l us) (ho : w'.ownsRow w.heap.size e' 1 v n (bvs X)) (hb : base ≤ w.heap.size) : Rd w' (fun b => base ≤ b ∧ ¬ nob b ∧ av.ownBlock ≠ some b) v (bys X) :=
  (Rd.of_own ho).weak (fun b _ (h2 : w.heap.size ≤ b) => ⟨by omega, fun h => h, fun e => by have := (h.own.lt b e).2; omega⟩)
theorem bldKs18 (A : Option Addr) (n c : Nat) : ∀ W : World, (Instr.build 33 #[(0, .slice A n c)]).run Tryd.prog W = .ok (.agg #[.slice A n c, .slice none 0 0]) W := fun _ => by kernel_rfl
def zKsN : List Value := [.slice none 0 0, .slice none 0 0]
theorem zeroKsN : (Tryd.prog.info? 33).map (·.zero) = some (some (.agg zKsN.toArray)) := by kernel_rfl
set_option maxRecDepth 100000 in
set_option maxHeartbeats 4000000 in
theorem seals18_any (ks : List (List UInt8)) (uk ur : Value) (F : Nat → Prop) (w : World) (hks : KsSm ks) (hk : Rd w F uk (tx ks)) :
    Calls Tryd.prog 19 #[.agg #[uk, ur]] w fun e w' => ∃ v', e = .returned (.agg #[v', .slice none 0 0]) ∧ Rd w' (fun b => w.heap.size ≤ b) v' (tx (ks.take 16)) ∧ Below w.heap.size w w' := by
  obtain ⟨A, c, rfl, hcA, hcm⟩ := hk.slShape
  obtain ⟨K, hK⟩ : ∃ K, K = ks.take 16 := ⟨_, rfl⟩
  have hKl : K.length = min ks.length 16 := by rw [hK, List.length_take]; omega
  have hKm := hid (fun X (hX : X ∈ K) => hks.t X (List.mem_of_mem_take (by rw [hK] at hX; exact hX)))
  have hmn := fun (W : World) (ts : Array TypeId) (t : TypeId) => Lib.run_min_ints (P := Tryd.prog) W ts t .i64 .i64 (ks.length : Int) 16
  have hme : min (ks.length : Int) 16 = (K.length : Int) := by omega
  have hcut := fun W => run_cut_h slBB8 A ks.length c (K.length : Int) (by omega) (by omega) W
  have hp : Rd w F (sliced A 0 K.length c 1) (tx K) := by
    have := Rd.piece (ds := ks.map bys) hk (by simp) (l := 0) (m := K.length) (by omega) (by omega)
    rw [List.drop_zero, Nat.sub_zero] at this
    have e1 : (ks.map bys).take K.length = K.map bys := by
      rw [hKl, ← List.map_take, hK, ← List.take_take, List.take_of_length_le (by rw [List.length_take]; omega)]
    rw [e1] at this
    exact this
  rw [Int.toNat_natCast] at hcut
  obtain ⟨A', c', hs', _, _⟩ := hp.slShape
  rw [hs'] at hp hcut
  rw [hme] at hmn
  have Hmn := hid hmn
  have Hcut := hid hcut
  clear hmn hcut hs' hme hcA hcm
  rw [← hK]
  obtain ⟨W1, hW1⟩ : ∃ x, x = w.alloc (.cells #[.slice A ks.length c, ur] 33) := ⟨_, rfl⟩
  have b1 : Blk W1 w.heap.size 33 [.slice A ks.length c, ur] := by rw [hW1]; exact Blk.new' w 33 _
  have hs1 : W1.heap.size = w.heap.size + 1 := by rw [hW1]; simp
  have hB1 : Below w.heap.size w W1 := by rw [hW1]; exact (Below.refl _ _).alloc (Nat.le_refl _) _
  obtain ⟨W0, hW0⟩ : ∃ x, x = W1.alloc (.cells zKsN.toArray 33) := ⟨_, rfl⟩
  have b2 : Blk W0 (w.heap.size + 1) 33 zKsN := by rw [hW0, ← hs1]; exact Blk.new' W1 33 _
  have hB2 : Below W1.heap.size W1 W0 := by rw [hW0]; exact (Below.refl _ _).alloc (Nat.le_refl _) _
  have b1 := b1.below hB2
  have hB0 := hB1.trans (hB2.mono hB1.size)
  have hp := hp.below hB0
  have c0 := b1.cellAt 0 _ rfl
  obtain ⟨g2, hg2⟩ : ∃ g, g = w.heap.size + 1 := ⟨_, rfl⟩
  rw [← hg2] at b2
  have hg2w : w.heap.size ≤ g2 := by omega
  have hg2l := b2.lt
  have hOT := OT.nil W0 35 W0.heap.size nob
  have hs0 := hB0.size
  have hK16 : K.length ≤ 16 := by omega
  clear hK hk hKl hks b1 hB1 hB2
  go_enter Tryd.func19, Tryd.ntmps19
  go_wp2_with (first | (refine wp_new 33 rfl rfl zeroKsN ?_; refine wp_stop ?_))
  rw [← hW1, ← hW0]
  rw [← hg2]
  clear hW0 hg2 hW1 hs1
  refine wp_go ?_
  have hmn := Hmn.out
  have hcut := Hcut.out
  go_wp2
  clear c0 hmn hcut
  go_loopw [3, 14] (fun ov iv wr => ∃ (i : Nat) (us' : List Value), i ≤ K.length ∧ iv = .int .i64 i ∧ OT wr 35 W0.heap.size nob ov (K.take i) us' ∧ Below W0.heap.size W0 wr) (fun _ i _ => K.length - (intOf i).toNat)
  case atStart => exact ⟨0, [], by omega, rfl, hOT, Below.refl _ _⟩
  case round =>
    clear hOT
    obtain ⟨i, us', hi, rfl, hOT, hBr⟩ := hrel
    have hszr := hBr.size
    have hp := hp.below hBr
    by_cases hlt : i < K.length
    · have hI : (i : Int) < (K.length : Int) := by omega
      obtain ⟨X, hX⟩ : ∃ X, K[i]? = some X := ⟨_, List.getElem?_eq_getElem hlt⟩
      have hXl := hKm.out X (List.mem_of_getElem? hX)
      have Hnx : Hid (K.take (i + 1) = K.take i ++ [X]) := hid (by rw [List.take_add_one, hX]; rfl)
      obtain ⟨gp, offp, u, hAp, _, hcu, hu⟩ := Rd.elem hp i (bys X) (by rw [List.getElem?_map, hX]; rfl)
      subst hAp
      obtain ⟨Au, cu, rfl⟩ := hu.shape
      have hDl : (K.take i).length = i := by rw [List.length_take]; omega
      obtain ⟨D, hD⟩ : ∃ D, D = K.take i := ⟨_, rfl⟩
      rw [← hD] at hOT Hnx hDl
      clear hX hD hp
      go_wp2_with (fail)
      refine (bclone_any X _ _ _ hu (by omega)).mono ?_
      rintro e w5 ⟨v5, rfl, ho5, hB5⟩
      obtain ⟨A5, c5, rfl⟩ := own_shape ho5
      have hv5 := OT.fresh18 hOT ho5 hszr
      have hOT := hOT.ch (G := nob) (Ch.of_below hB5) (fun b hb => hb.elim)
      have hBr := hBr.trans (hB5.mono hszr)
      have hszr := hBr.size
      clear hB5 hu hcu
      go_wp2_with (first | (refine wp_push (.tmp 18) (.tmp 20) 21 slBB8 rfl rfl rfl rfl rfl (u := .slice A5 X.length c5) rfl rfl rfl (by simp) rfl hOT.own (by rw [hDl]; simp only [maxLen]; omega) (by rw [hDl]; omega) hszr ?_; intro v6 w6 ho6 hG6 hd6; refine wp_stop ?_))
      have hBr := hBr.grown hG6 hszr (fun k hk => (hOT.own.lt k hk).1)
      have hOT := OT.pushG hOT hv5 (fun b h => h.elim) ho6 hG6 hd6
      refine wp_go ?_
      go_wp2
      go_roundw
      case rel => exact ⟨i + 1, _, by omega, by go_num, by rw [Hnx.out]; exact hOT, hBr⟩
      case measure => simp [intOf]; omega
    · have hI : ¬ (i : Int) < (K.length : Int) := by omega
      have htk : K.take i = K := List.take_of_length_le (by omega)
      rw [htk] at hOT
      have hfin := hOT.rd
      obtain ⟨Ao, co, rfl⟩ := own_shape hOT.own
      have hBe := hB0.trans (hBr.mono hs0)
      have b2r := b2.below hBr
      have hszr2 := hBr.size
      clear htk hp b2
      go_wp2_with (first | (refine wp_bld 33 [(0, .tmp 24)] rfl rfl [(0, .slice Ao K.length co)] rfl (bldKs18 _ _ _) ?_) | (refine wp_st 33 (.tmp 2) (.tmp 25) rfl rfl rfl (f := 0) rfl (l := [.slice Ao K.length co, .slice none 0 0]) rfl b2r (by exact Nat.le_refl _) sizeKs17 (by intro v hv; simp only [List.mem_cons, List.not_mem_nil, or_false] at hv; rcases hv with rfl | rfl <;> rfl) ?_; intro w9 hd9 hG9; refine wp_stop ?_))
      rw [set_all zKsN [.slice Ao K.length co, .slice none 0 0] rfl] at hd9
      refine wp_go ?_
      go_wp2
      refine ret_cell rfl rfl hd9.whole Tryd.underlying33 rfl sizeKs17 rfl ?_
      have hk9 : Rd w9 (fun b => W0.heap.size ≤ b) (.slice Ao K.length co) (tx K) := hfin.keep (fun b _ h => ⟨h, hG9.block b (by assumption) (fun e => by injection e with e; omega)⟩)
      exact ⟨_, rfl, hk9.weak (fun b _ h => Nat.le_trans hs0 h), hBe.grown hG9 hBe.size (by intro k hk; injection hk with hk; omega)⟩
end Go.Proofs.YthbbpfnfnnmdnaaDoor
/- ND: layer 18: an instance in memory. -/
namespace Go.Proofs.YthbbpfnfnnmdnaaDoor
open Go.RowKit Go.V Go.Maps
/-! no more votes than places -/
theorem nodup_lt : ∀ (n : Nat) (l : List Nat), l.Nodup → (∀ x ∈ l, x < n) → l.length ≤ n
  | 0, l, _, h => by
    cases l with
    | nil => simp
    | cons x l => have := h x (by simp); omega
  | n + 1, l, hu, h => by
    have h1 := nodup_lt n (l.erase n) (hu.erase n) (fun x hx => by
      have := (hu.mem_erase_iff).1 hx
      have := h x this.2
      omega)
    have h2 : l.length ≤ (l.erase n).length + 1 := by rw [List.length_erase]; split <;> omega
    omega
def codeV (v : Nv) : Nat := (v.m.k.toNat * 41 + v.m.r.toNat) * 16 + v.m.f.toNat
theorem NvIn.len {ks : List (List UInt8)} {V : Vc} {slot : Int} {L : List Nv} (h : NvIn ks V slot L) : L.length ≤ 3000 := by
  have hb : ∀ v ∈ L, (v.m.k = 2 ∨ v.m.k = 3) ∧ 0 ≤ v.m.r ∧ v.m.r ≤ 40 ∧ 0 ≤ v.m.f ∧ v.m.f < 16 := fun v hv => by
    have h1 := h.nb hv
    exact ⟨(tl_ok (h.v v hv)).2.1, h1.2.1, h1.2.2, h1.1.f.1, h1.1.f.2⟩
  have hu : (L.map codeV).Nodup := by
    rw [List.Nodup, List.pairwise_map]
    refine List.Pairwise.imp_of_mem (fun {a b} ha hb' hn he => hn ?_) h.u
    have h1 := hb a ha
    have h2 := hb b hb'
    unfold codeV at he
    unfold SV
    omega
  have := nodup_lt 3000 (L.map codeV) hu (fun x hx => by
    obtain ⟨v, hv, rfl⟩ := List.mem_map.1 hx
    have := hb v hv
    unfold codeV
    omega)
  rwa [List.length_map] at this
/-- the cells of an instance -/
def iC (uk : Value) (V : Vc) (slot : Int) (b0 b1 b2 : Nat) : List Value := [uk, .slice none 0 0, .int .i64 V.n, .int .u16 (V.m : Int), .int .i64 slot, .map (some b0), .map (some b1), .map (some b2)]
/-- an instance at p: b1 the map of its votes, b2 that of its words; F: what they read -/
structure IM (w : World) (p b0 b1 b2 : Nat) (uk : Value) (F : Nat → Prop) (ks : List (List UInt8)) (V : Vc) (slot : Int) (L : List Nv) : Prop where
  blk : Blk w p 65 (iC uk V slot b0 b1 b2)
  keys : Rd w F uk (tx (ks.take 16))
  vm : MpS vM w F b1 (entV L)
  sm : ∃ B, MpS sM w nob b2 B ∧ BR L B
  vin : NvIn ks V slot L
  vb : V.m < 65536
  ne : p ≠ b1 ∧ p ≠ b2 ∧ b1 ≠ b2
  f : ∀ x, F x → x ≠ p ∧ x ≠ b1 ∧ x ≠ b2 ∧ x < w.heap.size
theorem IM.lt {w : World} {p b0 b1 b2 : Nat} {uk : Value} {F : Nat → Prop} {ks : List (List UInt8)} {V : Vc} {slot : Int} {L : List Nv} (h : IM w p b0 b1 b2 uk F ks V slot L) {x : Nat} (hx : x = p ∨ x = b1 ∨ x = b2 ∨ F x) : x < w.heap.size := by
  rcases hx with rfl | rfl | rfl | hx
  · exact h.blk.lt
  · exact h.vm.lt
  · obtain ⟨B, hB, _⟩ := h.sm
    exact hB.lt
  · exact (h.f x hx).2.2.2
theorem IM.keep {w w' : World} {p b0 b1 b2 : Nat} {uk : Value} {F : Nat → Prop} {ks : List (List UInt8)} {V : Vc} {slot : Int} {L : List Nv} (h : IM w p b0 b1 b2 uk F ks V slot L) (hs : w.heap.size ≤ w'.heap.size) (hk : ∀ x, x = p ∨ x = b1 ∨ x = b2 ∨ F x → w'.heap[x]? = w.heap[x]?) : IM w' p b0 b1 b2 uk F ks V slot L := by
  have hF : ∀ x, x < w.heap.size → F x → F x ∧ w'.heap[x]? = w.heap[x]? := fun x _ hx => ⟨hx, hk x (.inr (.inr (.inr hx)))⟩
  obtain ⟨B, hB, hR⟩ := h.sm
  exact ⟨h.blk.keep (hk p (.inl rfl)), h.keys.keep hF, h.vm.keep (hk b1 (.inr (.inl rfl))) hF, ⟨B, hB.keep (hk b2 (.inr (.inr (.inl rfl)))) (fun x _ hx => hx.elim), hR⟩, h.vin, h.vb, h.ne, fun x hx => ⟨(h.f x hx).1, (h.f x hx).2.1, (h.f x hx).2.2.1, Nat.lt_of_lt_of_le (h.f x hx).2.2.2 hs⟩⟩
theorem IM.below {w w' : World} {p b0 b1 b2 : Nat} {uk : Value} {F : Nat → Prop} {ks : List (List UInt8)} {V : Vc} {slot : Int} {L : List Nv} (h : IM w p b0 b1 b2 uk F ks V slot L) (hB : Below w.heap.size w w') : IM w' p b0 b1 b2 uk F ks V slot L := h.keep hB.size (fun _ hx => hB.block _ (h.lt hx))
/-- an instance at v, in blocks M; it reads nothing beside them -/
def NX (w : World) (v : Value) (M N : Nat → Prop) (ks : List (List UInt8)) (V : Vc) (slot : Int) (L : List Nv) : Prop :=
  (∀ b, N b → b < w.heap.size) ∧ ∃ (p b0 b1 b2 : Nat) (uk : Value) (F : Nat → Prop), v = .pointer (some ⟨p, 0, none⟩) ∧ IM w p b0 b1 b2 uk F ks V slot L ∧ ∀ x, M x ↔ x = p ∨ x = b1 ∨ x = b2 ∨ F x
theorem NX.lt {w : World} {v : Value} {M N : Nat → Prop} {ks : List (List UInt8)} {V : Vc} {slot : Int} {L : List Nv} (h : NX w v M N ks V slot L) : ∀ b, M b ∨ N b → b < w.heap.size := by
  obtain ⟨hN, p, b0, b1, b2, uk, F, _, hm, hM⟩ := h
  rintro b (hb | hb)
  · exact hm.lt ((hM b).1 hb)
  · exact hN b hb
theorem NX.vin {w : World} {v : Value} {M N : Nat → Prop} {ks : List (List UInt8)} {V : Vc} {slot : Int} {L : List Nv} (h : NX w v M N ks V slot L) : NvIn ks V slot L := by
  obtain ⟨hN, p, b0, b1, b2, uk, F, _, hm, hM⟩ := h
  exact hm.vin
theorem NX.keep {w w' : World} {v : Value} {M N : Nat → Prop} {ks : List (List UInt8)} {V : Vc} {slot : Int} {L : List Nv} (h : NX w v M N ks V slot L) (hs : w.heap.size ≤ w'.heap.size) (hk : ∀ b, M b ∨ N b → w'.heap[b]? = w.heap[b]?) : NX w' v M N ks V slot L := by
  obtain ⟨hN, p, b0, b1, b2, uk, F, hv, hm, hM⟩ := h
  exact ⟨fun b hb => Nat.lt_of_lt_of_le (hN b hb) hs, p, b0, b1, b2, uk, F, hv, hm.keep hs (fun x hx => hk x (.inl ((hM x).2 hx))), hM⟩
theorem NX.below {w w' : World} {v : Value} {M N : Nat → Prop} {ks : List (List UInt8)} {V : Vc} {slot : Int} {L : List Nv} (h : NX w v M N ks V slot L) (hB : Below w.heap.size w w') : NX w' v M N ks V slot L := h.keep hB.size (fun b hb => hB.block b (h.lt b hb))
/-- what a Take leaves -/
structure NP (w : World) (M : Nat → Prop) (w' : World) (v : Value) (N : Nat → Prop) (ks : List (List UInt8)) (V : Vc) (slot : Int) (L : List Nv) (M' : Nat → Prop) : Prop where
  x : NX w' v M' N ks V slot L
  m : ∀ b, M' b → M b ∨ w.heap.size ≤ b
  c : Ch M w w'
theorem zeroPl18 : (Tryd.prog.info? 69).map (·.zero) = some (some (.agg [Value.int .i64 0, .int .i64 0, .int .i64 0].toArray)) := by kernel_rfl
theorem sizePl18 : (Tryd.prog.info? 69).map (·.size) = some 3 := by kernel_rfl
def zBl : List Value := csB 0 0 (List.replicate 32 0)
theorem zeroBl18 : (Tryd.prog.info? 72).map (·.zero) = some (some (.agg zBl.toArray)) := by kernel_rfl
theorem sizeBl18 : (Tryd.prog.info? 72).map (·.size) = some 34 := by kernel_rfl
theorem len_csB {k r : Int} {h : List UInt8} (hh : h.length = 32) : (csB k r h).length = 34 := by simp [csB, bvs, hh]
theorem one_csB (k r : Int) (h : List UInt8) : ∀ v ∈ csB k r h, v.oneCell' = true := by
  intro v hv
  unfold csB at hv
  simp only [List.cons_append, List.nil_append, List.mem_cons] at hv
  rcases hv with rfl | rfl | hv
  · rfl
  · rfl
  · obtain ⟨b, _, rfl⟩ := List.mem_map.1 hv
    rfl
theorem fm_next18 {f : Nat → Option (List UInt8)} {L : List Nat} {i k : Nat} {X : List UInt8} (hk : L[i]? = some k) (hX : f k = some X) : (L.take (i + 1)).filterMap f = (L.take i).filterMap f ++ [X] := by
  rw [List.take_add_one, hk, List.filterMap_append]
  simp [hX]
theorem fm_len18 {f : Nat → Option (List UInt8)} {L : List Nat} {i : Nat} : ((L.take i).filterMap f).length ≤ i := by
  have := List.length_filterMap_le f (L.take i)
  rw [List.length_take] at this
  omega
end Go.Proofs.YthbbpfnfnnmdnaaDoor
/- NE: layer 18: contracts of an instance's isQuorum and winner. -/
namespace Go.Proofs.YthbbpfnfnnmdnaaDoor
open Go.RowKit Go.V Go.Maps
set_option maxRecDepth 100000 in
set_option maxHeartbeats 2000000 in
theorem isq18_any (p b0 b1 b2 : Nat) (uk : Value) (V : Vc) (slot : Int) (S : Nat) (w : World) (hb : Blk w p 65 (iC uk V slot b0 b1 b2)) (hV : V.m < 65536) (hS : S < 65536) :
    Calls Tryd.prog 32 #[.pointer (some ⟨p, 0, none⟩), .int .u16 (S : Int)] w fun e w' => e = .returned (.bool (qOK V S)) ∧ Below w.heap.size w w' := by
  obtain ⟨n, M⟩ := V
  dsimp only at hV
  have hr := hid (right_any n M · hV)
  have hquo := hid (quo_any n M · hV)
  have hone : Hid (∀ W : World, Calls Tryd.prog 44 #[.int .u16 (S : Int)] W fun e w' => e = .returned (.int .i64 (szM S : Int)) ∧ Below W.heap.size W w') := fun W => (ones_any S W hS).mono (by rintro e w1 ⟨rfl, k, rfl⟩; exact ⟨rfl, ⟨rfl, rfl, rfl, Nat.le_refl _, fun _ _ => rfl⟩⟩)
  have HV : Hid (∀ W, Ch nob w W → W.rangeAt p 2 [.int .i64 n, .int .u16 (M : Int)]) := fun W h => (hb.ch h (fun h => h)).range 2 _ (fun j v hv => by
    match j, hv with
    | 0, hv => exact hv
    | 1, hv => exact hv
    | j + 2, hv => cases hv)
  have Hq : Hid (qOK ⟨n, M⟩ S = (rgt n M && decide (quoN n M ≤ szM S))) := hid rfl
  unfold vw at hr hquo
  obtain ⟨d, hd⟩ : ∃ d, d = qOK ⟨n, M⟩ S := ⟨_, rfl⟩
  rw [← hd] at Hq ⊢
  clear hd
  obtain ⟨q, hq⟩ : ∃ q, q = quoN n M := ⟨_, rfl⟩
  rw [← hq] at hquo Hq
  obtain ⟨s, hs⟩ : ∃ s, s = szM S := ⟨_, rfl⟩
  rw [← hs] at hone Hq
  obtain ⟨b, hbq⟩ : ∃ b, b = rgt n M := ⟨_, rfl⟩
  rw [← hbq] at hr Hq
  clear hq hs hbq hb
  go_enter Tryd.func32, Tryd.ntmps32
  go_upto_region 1 with (fail)
  cases b with
  | true =>
    refine wp_region_noPanic ?_
    refine wp_region_held_drew (S := Ch nob w) (by kernel_rfl) ((Ch.refl _ _).drew) (fun hHeld => ?_)
    refine tkP 0 rfl ?_
    refine tkP 1 rfl ?_
    refine tkP 2 rfl ?_
    refine tkY 3 rfl (yieldsIf_load_mid (by rfl) 24 (.tmp 7) (by rfl) _ (2) (by rfl) _ _ (fun _ hs => HV.out _ hs) Tryd.underlying24 rfl (sizeV)) ?_
    refine rdH 4 rfl (fun K hK => ?_)
    go_simp
    refine (hr.out _).mono ?_
    rintro e' w11 ⟨rfl, hB11⟩
    have hC11 := hHeld.belowR hB11
    refine hK.out _ _ (hC11) (fun hHeld => ?_)
    clear hK K
    try simp only [nP]
    refine tkP 5 rfl ?_
    refine tkP 6 rfl ?_
    refine tkP 8 rfl ?_
    refine tkP 9 rfl ?_
    refine tkP 10 rfl ?_
    refine tkY 11 rfl (yieldsIf_load_mid (by rfl) 24 (.tmp 15) (by rfl) _ (2) (by rfl) _ _ (fun _ hs => HV.out _ hs) Tryd.underlying24 rfl (sizeV)) ?_
    refine rdH 7 rfl (fun K hK => ?_)
    go_simp
    refine (hone.out _).mono ?_
    rintro e' w12 ⟨rfl, hB12⟩
    have hC12 := hC11.belowR hB12
    refine hK.out _ _ (hC12) (fun hHeld => ?_)
    clear hK K
    try simp only [nP]
    refine rdH 12 rfl (fun K hK => ?_)
    go_simp
    refine (hquo.out _).mono ?_
    rintro e' w13 ⟨rfl, hB13⟩
    have hC13 := hC12.belowR hB13
    refine hK.out _ _ (hC13) (fun hHeld => ?_)
    clear hK K
    try simp only [nP]
    refine tkP 13 rfl ?_
    refine tkP 14 rfl ?_
    refine tkP 15 rfl ?_
    refine wpAnyH_done (by kernel_rfl) ?_ _
    refine NoPanic.normal ?_
    have hBe := hHeld.below
    go_wp2
    go_ret
    exact ⟨ret_b (by rw [Hq.out, Bool.true_and]), hBe⟩
  | false =>
    refine wp_region_noPanic ?_
    refine wp_region_held_drew (S := Ch nob w) (by kernel_rfl) ((Ch.refl _ _).drew) (fun hHeld => ?_)
    refine tkP 0 rfl ?_
    refine tkP 1 rfl ?_
    refine tkP 2 rfl ?_
    refine tkY 3 rfl (yieldsIf_load_mid (by rfl) 24 (.tmp 7) (by rfl) _ (2) (by rfl) _ _ (fun _ hs => HV.out _ hs) Tryd.underlying24 rfl (sizeV)) ?_
    refine rdH 4 rfl (fun K hK => ?_)
    go_simp
    refine (hr.out _).mono ?_
    rintro e' w11 ⟨rfl, hB11⟩
    have hC11 := hHeld.belowR hB11
    refine hK.out _ _ (hC11) (fun hHeld => ?_)
    clear hK K
    try simp only [nP]
    refine tkP 5 rfl ?_
    refine tkS 6 rfl ?_
    refine tkS 7 rfl ?_
    refine tkS 8 rfl ?_
    refine tkS 9 rfl ?_
    refine tkS 10 rfl ?_
    refine tkS 11 rfl ?_
    refine tkS 12 rfl ?_
    refine tkS 13 rfl ?_
    refine tkP 14 rfl ?_
    refine tkP 15 rfl ?_
    refine wpAnyH_done (by kernel_rfl) ?_ _
    refine NoPanic.normal ?_
    have hBe := hHeld.below
    go_wp2
    go_ret
    exact ⟨ret_b (by rw [Hq.out, Bool.false_and]), hBe⟩
end Go.Proofs.YthbbpfnfnnmdnaaDoor
