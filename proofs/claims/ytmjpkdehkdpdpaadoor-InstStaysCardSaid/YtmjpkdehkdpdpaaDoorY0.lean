/- Y0: several texts in one. -/
import Derived.Test.YtmjpkdehkdpdpaaDoorVA
import Derived.Test.YtmjpkdehkdpdpaaDoorVH
import Derived.Test.YtmjpkdehkdpdpaaDoorR2
import Derived.Stop.BytesEq
import Derived.Test.YtmjpkdehkdpdpaaDoorRB
import Derived.Deep.DeepCutAuto
/- Y0: layer 8: messages as lists, in memory. No project text. -/
namespace Go.V
open Go.RowKit
structure Mg where
  k : Int
  f : Int
  v : Int
  r : Int
  s : Int
  h : List UInt8
  b : List UInt8
  ps : List (List UInt8)
/-- its cells: body and parts are slices -/
def Mg.l (m : Mg) (ub up : Value) : List Value := .int .i64 m.k :: .int .i64 m.f :: .int .i64 m.v :: .int .i64 m.r :: .int .i64 m.s :: (bvs m.h ++ [ub, up])
def Mg.val (m : Mg) (ub up : Value) : Value := .agg (m.l ub up).toArray
def un (x : Int) : Nat := (x % 18446744073709551616).toNat
theorem un_lt (x : Int) : un x < 18446744073709551616 := by unfold un; omega
theorem un_wrap (x : Int) : IntKind.u64.wrap x = (un x : Int) := by rw [IntKind.wrap_u64]; unfold un; omega
theorem un_nat (n : Nat) (h : n < 18446744073709551616) : un (n : Int) = n := by unfold un; omega
def tb1 (t : List UInt8) : List UInt8 := packed t.length ++ t
def numB (m : Mg) : Bool := decide (1 ≤ m.k ∧ m.k ≤ 12 ∧ 0 ≤ m.f ∧ m.f ≤ 15 ∧ 0 ≤ m.v ∧ m.v ≤ 60 ∧ 0 ≤ m.r ∧ m.r ≤ 40 ∧ 0 ≤ m.s ∧ m.s ≤ 60)
def longB (m : Mg) : Bool := decide (3000 < m.b.length ∨ 20 < m.ps.length ∨ ∃ t ∈ m.ps, 3000 < t.length)
theorem len_mg {m : Mg} (hh : m.h.length = 32) (ub up : Value) : (m.l ub up).length = 39 := by simp [Mg.l, bvs, hh]
theorem mg_body {m : Mg} (hh : m.h.length = 32) (ub up : Value) : (m.l ub up)[37]? = some ub := by
  have : (bvs m.h ++ [ub, up])[32]? = some ub := by rw [List.getElem?_append_right (by simp [bvs, hh])]; simp [bvs, hh]
  simpa [Mg.l] using this
theorem mg_parts {m : Mg} (hh : m.h.length = 32) (ub up : Value) : (m.l ub up)[38]? = some up := by
  have : (bvs m.h ++ [ub, up])[33]? = some up := by rw [List.getElem?_append_right (by simp [bvs, hh])]; simp [bvs, hh]
  simpa [Mg.l] using this
theorem mg_hash {m : Mg} (_hh : m.h.length = 32) (ub up : Value) (j : Nat) (v : Value) (hv : (bvs m.h)[j]? = some v) : (m.l ub up)[5 + j]? = some v := by
  have hj := (List.getElem?_eq_some_iff.1 hv).1
  have : (bvs m.h ++ [ub, up])[j]? = some v := by rw [List.getElem?_append_left hj]; exact hv
  rw [show 5 + j = j + 5 from by omega]
  simpa [Mg.l] using this
theorem one_mg {m : Mg} {A B : Option Addr} {n c k d : Nat} : ∀ v ∈ m.l (.slice A n c) (.slice B k d), v.oneCell' = true := by
  intro v hv
  simp only [Mg.l, List.mem_cons, List.mem_append] at hv
  rcases hv with rfl | rfl | rfl | rfl | rfl | hv | rfl | rfl | hv
  · rfl
  · rfl
  · rfl
  · rfl
  · rfl
  · exact oneCell_bvs _ v hv
  · rfl
  · rfl
  · cases hv
/-- a message's parts in a block: what the walk asks for -/
structure MgAt (w : World) (g : Nat) (t : TypeId) (m : Mg) (ub up : Value) : Prop where
  blk : Blk w g t (m.l ub up)
  len : m.h.length = 32
theorem own_join {w : World} {b : Nat} {e : TypeId} {v : Value} {p q : List UInt8} (h : w.ownsRow b e 1 v (p.length + q.length) (bvs p ++ bvs q)) : w.ownsRow b e 1 v (p ++ q).length (bvs (p ++ q)) := by
  rw [List.length_append, show bvs (p ++ q) = bvs p ++ bvs q from by simp [bvs]]
  exact h
theorem long_bd {m : Mg} (h : longB m = false) : m.b.length ≤ 3000 ∧ m.ps.length ≤ 20 ∧ ∀ t ∈ m.ps, t.length ≤ 3000 := by
  unfold longB at h
  rw [decide_eq_false_iff_not] at h
  refine ⟨by omega, by omega, fun t ht => ?_⟩
  rcases Nat.lt_or_ge 3000 t.length with h3 | h3
  · exact absurd (.inr (.inr ⟨t, ht, h3⟩)) h
  · exact h3
theorem len_tb1 {t : List UInt8} (h : t.length ≤ 3000) : (tb1 t).length ≤ 3010 := by
  have := psz_bd t.length
  unfold tb1
  rw [List.length_append, length_packed]
  omega
theorem len_parts : ∀ (ps : List (List UInt8)), (∀ t ∈ ps, t.length ≤ 3000) → (ps.flatMap tb1).length ≤ 3010 * ps.length
  | [], _ => by simp
  | t :: ps, h => by
    rw [List.flatMap_cons, List.length_append, List.length_cons]
    have h1 := len_tb1 (h t (by simp))
    have h2 := len_parts ps (fun x hx => h x (by simp [hx]))
    omega
theorem take_snocT {l : List (List UInt8)} {i : Nat} {r : List UInt8} (h : l[i]? = some r) : l.take (i + 1) = l.take i ++ [r] := by
  rw [List.take_add_one, h]; rfl
def in64w (x : Int) : Prop := -9223372036854775808 ≤ x ∧ x ≤ 9223372036854775807
structure MgIn (m : Mg) : Prop where
  k : in64w m.k
  f : in64w m.f
  v : in64w m.v
  r : in64w m.r
  s : in64w m.s
  h : m.h.length = 32
end Go.V
namespace Go.Proofs.YtmjpkdehkdpdpaaDoor
open Go.RowKit Go.V
def Mg.hd (m : Mg) : List UInt8 := ((((fixR 1 (un m.k) ++ fixR 1 (un m.f)) ++ fixR 2 (un m.v)) ++ fixR 2 (un m.r)) ++ fixR 2 (un m.s)) ++ m.h
def Mg.by (m : Mg) : List UInt8 := (((Mg.hd m) ++ (packed m.b.length ++ m.b)) ++ packed m.ps.length) ++ m.ps.flatMap tb1
theorem len_fixR1 (x : Nat) : (fixR 1 x).length = 1 := by unfold fixR; rw [if_pos (by unfold okN; omega)]; simp [fixB]
theorem len_fixR2 (x : Nat) : (fixR 2 x).length = 2 := by unfold fixR; rw [if_pos (by unfold okN; omega)]; simp [fixB]
theorem len_hd {m : Mg} (hh : m.h.length = 32) : (Mg.hd m).length = 40 := by
  unfold Mg.hd
  simp only [List.length_append, len_fixR1, len_fixR2, hh]
theorem eqH8 (p : List UInt8) (hp : p.length = 32) : ∀ W : World, (Op.equalIn 10000 41 (.agg (bvs p).toArray) (.agg (bvs p).toArray)).run Tryd.prog W = .ok true W := fun W => by
  have := run_equalIn_bytes (P := Tryd.prog) W 9998 41 5 32 Tryd.underlying41 Tryd.underlying5 Tryd.sizeOf5 p p hp hp
  rw [beq_self_eq_true] at this
  exact this
theorem sizeM : (Tryd.prog.info? 59).map (·.size) = some 39 := by kernel_rfl
end Go.Proofs.YtmjpkdehkdpdpaaDoor
/- Y1: layer 8: contract of the document's Bytes. -/
namespace Go.Proofs.YtmjpkdehkdpdpaaDoor
open Go.RowKit Go.V
end Go.Proofs.YtmjpkdehkdpdpaaDoor
/- Y2: layer 8: contracts of the document's Numbers, Long. -/
namespace Go.Proofs.YtmjpkdehkdpdpaaDoor
open Go.RowKit Go.V
set_option maxHeartbeats 1000000 in
theorem num8_any (m : Mg) (ub up : Value) (w : World) :
    Calls Tryd.prog 86 #[m.val ub up] w fun e w' => e = .returned (.bool (numB m)) ∧ Below w.heap.size w w' := by
  unfold Mg.val
  have hb := Blk.new' w 59 (m.l ub up)
  have hB : Below w.heap.size w (w.alloc (.cells (m.l ub up).toArray 59)) := (Below.refl _ _).alloc (Nat.le_refl _) _
  have c0 := hb.cellAt 0 _ rfl
  have c1 := hb.cellAt 1 _ rfl
  have c2 := hb.cellAt 2 _ rfl
  have c3 := hb.cellAt 3 _ rfl
  have c4 := hb.cellAt 4 _ rfl
  have hr : numB m = decide (1 ≤ m.k ∧ m.k ≤ 12 ∧ 0 ≤ m.f ∧ m.f ≤ 15 ∧ 0 ≤ m.v ∧ m.v ≤ 60 ∧ 0 ≤ m.r ∧ m.r ≤ 40 ∧ 0 ≤ m.s ∧ m.s ≤ 60) := rfl
  obtain ⟨q, hq⟩ : ∃ q, q = numB m := ⟨_, rfl⟩
  rw [← hq] at hr ⊢
  have Hr := hid hr
  clear hr hq
  go_enter Tryd.func86, Tryd.ntmps86
  go_wp2
  all_goals (go_ret; exact ⟨by rw [Hr.out]; exact ret_b (by rw [Bool.eq_iff_iff]; simp; try omega), hB⟩)
theorem long_t {m : Mg} (h : 3000 < m.b.length ∨ 20 < m.ps.length ∨ ∃ t ∈ m.ps, 3000 < t.length) : longB m = true := by
  unfold longB; rw [decide_eq_true_iff]; exact h
theorem long_f {m : Mg} (h1 : ¬ 3000 < m.b.length) (h2 : ¬ 20 < m.ps.length) (h3 : ∀ t ∈ m.ps, t.length ≤ 3000) : longB m = false := by
  unfold longB
  rw [decide_eq_false_iff_not]
  rintro (h | h | ⟨t, ht, h⟩)
  · exact h1 h
  · exact h2 h
  · have := h3 t ht; omega
end Go.Proofs.YtmjpkdehkdpdpaaDoor
/- Y3: layer 8: contracts of the document's SameParts, Same, Put. -/
namespace Go.Proofs.YtmjpkdehkdpdpaaDoor
open Go.RowKit Go.V
set_option maxRecDepth 100000 in
set_option maxHeartbeats 2000000 in
theorem sameParts_any (v1 v2 : Value) (l : List (List UInt8)) (F1 F2 : Nat → Prop) (w : World) (h1 : Rd w F1 v1 (tx l)) (h2 : Rd w F2 v2 (tx l)) (hn : l.length ≤ 1000000) :
    Calls Tryd.prog 16 #[v1, v2] w fun e w' => e = .returned (.bool true) ∧ Below w.heap.size w w' := by
  obtain ⟨A1, c1, rfl, _, _⟩ := h1.slShape
  obtain ⟨A2, c2, rfl, _, _⟩ := h2.slShape
  go_enter Tryd.func16, Tryd.ntmps16
  go_wp2
  go_loopw [5] (fun iv wr => ∃ i : Nat, i ≤ l.length ∧ iv = .int .i64 i ∧ Below w.heap.size w wr) (fun i _ => l.length - (intOf i).toNat)
  case atStart => exact ⟨0, Nat.zero_le _, rfl, Below.refl _ _⟩
  case round =>
    obtain ⟨i, hi, rfl, hBr⟩ := hrel
    by_cases hlt : i < l.length
    · obtain ⟨t, ht⟩ : ∃ t, l[i]? = some t := ⟨_, List.getElem?_eq_getElem hlt⟩
      have hI : (i : Int) < (l.length : Int) := by omega
      obtain ⟨G1, off1, u1, rfl, _, hx1, hu1⟩ := Rd.elem (h1.below hBr) i (bys t) (by rw [List.getElem?_map, ht]; rfl)
      obtain ⟨G2, off2, u2, rfl, _, hx2, hu2⟩ := Rd.elem (h2.below hBr) i (bys t) (by rw [List.getElem?_map, ht]; rfl)
      obtain ⟨B1, d1, rfl⟩ := hu1.shape
      obtain ⟨B2, d2, rfl⟩ := hu2.shape
      clear ht
      go_upto_region 6 with (fail)
      have H1 : Hid (∀ W, Ch nob wr W → W.cell? ⟨G1, off1 + i, none⟩ = some (.slice B1 t.length d1)) := fun W h => (World.cell?_of_block (h.block _ (lt_of_cell hx1) (fun h => h))).trans hx1
      have H2 : Hid (∀ W, Ch nob wr W → W.cell? ⟨G2, off2 + i, none⟩ = some (.slice B2 t.length d2)) := fun W h => (World.cell?_of_block (h.block _ (lt_of_cell hx2) (fun h => h))).trans hx2
      refine wp_region_noPanic ?_
      refine wp_region_held_drew (S := Ch nob wr) (by kernel_rfl) ((Ch.refl _ _).drew) (fun hHeld => ?_)
      refine wpAnyH_take (i := 0) (oi := ⟨some 17, _, _, _, _, none⟩) (v := ?_) rfl (by kernel_rfl) (by kernel_rfl) (by kernel_rfl) (fun _ _ _ h => h) (Or.inl ⟨by rfl, ?_⟩) (by assumption) ?_
      rotate_left
      · intro w hSw; go_simp; try with_reducible rfl
      try simp only [Act.put, List.setIfInBounds_toArray, List.set_cons_zero, List.set_cons_succ]
      refine wpAnyH_take (i := 1) (oi := ⟨some 18, _, _, _, _, none⟩) (v := ?_) rfl (by kernel_rfl) (by kernel_rfl) (by kernel_rfl) (fun _ _ _ h => h) (Or.inl ⟨by rfl, ?_⟩) (by assumption) ?_
      rotate_left
      · intro w hSw; go_simp; try with_reducible rfl
      try simp only [Act.put, List.setIfInBounds_toArray, List.set_cons_zero, List.set_cons_succ]
      refine wpAnyH_take (i := 2) (oi := ⟨some 19, _, _, _, _, none⟩) (v := ?_) rfl (by kernel_rfl) (by kernel_rfl) (by kernel_rfl) (fun _ _ _ h => h) (Or.inl ⟨by rfl, ?_⟩) (by assumption) ?_
      rotate_left
      · intro w hSw; go_simp; try with_reducible rfl
      try simp only [Act.put, List.setIfInBounds_toArray, List.set_cons_zero, List.set_cons_succ]
      refine wpAnyH_take (i := 3) (oi := ⟨some 20, _, _, _, _, none⟩) (v := ?_) rfl (by kernel_rfl) (by kernel_rfl) (by kernel_rfl) (fun _ _ _ h => h) (Or.inl ⟨by rfl, ?_⟩) (by assumption) ?_
      rotate_left
      · intro w hSw; have hcw := H1.out w hSw; go_simp; try with_reducible rfl
      try simp only [Act.put, List.setIfInBounds_toArray, List.set_cons_zero, List.set_cons_succ]
      refine wpAnyH_take (i := 4) (oi := ⟨some 21, _, _, _, _, none⟩) (v := ?_) rfl (by kernel_rfl) (by kernel_rfl) (by kernel_rfl) (fun _ _ _ h => h) (Or.inl ⟨by rfl, ?_⟩) (by assumption) ?_
      rotate_left
      · intro w hSw; go_simp; try with_reducible rfl
      try simp only [Act.put, List.setIfInBounds_toArray, List.set_cons_zero, List.set_cons_succ]
      refine wpAnyH_take (i := 5) (oi := ⟨some 22, _, _, _, _, none⟩) (v := ?_) rfl (by kernel_rfl) (by kernel_rfl) (by kernel_rfl) (fun _ _ _ h => h) (Or.inl ⟨by rfl, ?_⟩) (by assumption) ?_
      rotate_left
      · intro w hSw; go_simp; try with_reducible rfl
      try simp only [Act.put, List.setIfInBounds_toArray, List.set_cons_zero, List.set_cons_succ]
      refine wpAnyH_take (i := 6) (oi := ⟨some 23, _, _, _, _, none⟩) (v := ?_) rfl (by kernel_rfl) (by kernel_rfl) (by kernel_rfl) (fun _ _ _ h => h) (Or.inl ⟨by rfl, ?_⟩) (by assumption) ?_
      rotate_left
      · intro w hSw; go_simp; try with_reducible rfl
      try simp only [Act.put, List.setIfInBounds_toArray, List.set_cons_zero, List.set_cons_succ]
      refine wpAnyH_take (i := 7) (oi := ⟨some 24, _, _, _, _, none⟩) (v := ?_) rfl (by kernel_rfl) (by kernel_rfl) (by kernel_rfl) (fun _ _ _ h => h) (Or.inl ⟨by rfl, ?_⟩) (by assumption) ?_
      rotate_left
      · intro w hSw; have hcw := H2.out w hSw; go_simp; try with_reducible rfl
      try simp only [Act.put, List.setIfInBounds_toArray, List.set_cons_zero, List.set_cons_succ]
      refine wpAnyH_ready (rs := [8]) (by kernel_rfl) (by simp) ?_
      refine AllReadyH.cons (o := ⟨some 25, _, _, _, _, none⟩) rfl (fun K hK => ?_) AllReadyH.nil
      go_simp
      refine (same_b _ _ t t _ _ _ (hu1.ext hHeld) (hu2.ext hHeld)).mono ?_
      rintro e' w11 ⟨rfl, hB11⟩
      rw [decide_eq_true rfl]
      have hC11 := hHeld.belowR hB11
      refine hK.out _ _ (hC11) (fun hHeld => ?_)
      clear hK K
      try simp only [Act.put, List.setIfInBounds_toArray, List.set_cons_zero, List.set_cons_succ]
      refine wpAnyH_take (i := 9) (oi := ⟨some 26, _, _, _, _, none⟩) (v := ?_) rfl (by kernel_rfl) (by kernel_rfl) (by kernel_rfl) (fun _ _ _ h => h) (Or.inl ⟨by rfl, ?_⟩) (by assumption) ?_
      rotate_left
      · intro w hSw; go_simp; try with_reducible rfl
      try simp only [Act.put, List.setIfInBounds_toArray, List.set_cons_zero, List.set_cons_succ]
      refine wpAnyH_done (by kernel_rfl) ?_ _
      refine NoPanic.normal ?_
      go_wp2
      go_roundw
      case rel => exact ⟨i + 1, by omega, by go_num, hBr.trans (hC11.below.mono hBr.size)⟩
      case measure => simp [intOf]; omega
    · have hi' : i = l.length := by omega
      subst hi'
      have hI : ¬ (l.length : Int) < (l.length : Int) := by omega
      go_wp2
      go_ret
      exact ⟨rfl, hBr⟩
def errM (m : Mg) : Nat := if 16 < m.ps.length then 4 else if numB m then 0 else 15
theorem len_by {m : Mg} (hh : m.h.length = 32) (hlo : longB m = false) : (Mg.by m).length ≤ 63260 := by
  obtain ⟨h1, h2, h3⟩ := long_bd hlo
  have h4 := len_parts m.ps h3
  have h5 := psz_bd m.b.length
  have h6 := psz_bd m.ps.length
  unfold Mg.by
  simp only [List.length_append, length_packed, len_hd hh]
  omega
end Go.Proofs.YtmjpkdehkdpdpaaDoor
/- Y4: layer 8: contract of the document's Copied. -/
namespace Go.V
open Go.RowKit
theorem mg_set37 {m : Mg} (hh : m.h.length = 32) (ub up u : Value) : (m.l ub up).set 37 u = m.l u up := by
  have : (bvs m.h ++ [ub, up]).set 32 u = bvs m.h ++ [u, up] := by
    rw [List.set_append_right _ _ (by simp [bvs, hh])]
    simp [bvs, hh]
  simpa [Mg.l] using this
theorem mg_set38 {m : Mg} (hh : m.h.length = 32) (ub up u : Value) : (m.l ub up).set 38 u = m.l ub u := by
  have : (bvs m.h ++ [ub, up]).set 33 u = bvs m.h ++ [ub, u] := by
    rw [List.set_append_right _ _ (by simp [bvs, hh])]
    simp [bvs, hh]
  simpa [Mg.l] using this
end Go.V
namespace Go.V
theorem own_keep8 {w w' : World} {base : Nat} {e : TypeId} {s : Nat} {v : Value} {n : Nat} {xs : List Value} (h : w.ownsRow base e s v n xs) (hk : ∀ k, k < w.heap.size → v.ownBlock = some k → w'.heap[k]? = w.heap[k]?) : w'.ownsRow base e s v n xs := by
  obtain ⟨h1, h2⟩ := h
  refine ⟨h1, ?_⟩
  rcases h2 with h | ⟨g, cap, cur, rfl, hg, hh, h3⟩
  · exact .inl h
  · exact .inr ⟨g, cap, cur, rfl, hg, (hk g (lt_of_block hh) rfl).trans hh, h3⟩
end Go.V
namespace Go.Proofs.YtmjpkdehkdpdpaaDoor
open Go.RowKit Go.V
theorem slBB8 : SlT Tryd.prog 30 35 (.slice none 0 0) 24 := .of Tryd.underlying30 (by kernel_rfl) rfl
theorem sizeSl8 : (Tryd.prog.info? 35).map (·.size) = some 1 := by kernel_rfl
theorem sizeSS8 : (Tryd.prog.info? 30).map (·.size) = some 1 := by kernel_rfl
def zM : List Value := .int .i64 0 :: .int .i64 0 :: .int .i64 0 :: .int .i64 0 :: .int .i64 0 :: (zs8 32 ++ [.slice none 0 0, .slice none 0 0])
theorem zeroM : (Tryd.prog.info? 59).map (·.zero) = some (some (.agg zM.toArray)) := by kernel_rfl
theorem len_zM : zM.length = 39 := by simp [zM, zs8]
end Go.Proofs.YtmjpkdehkdpdpaaDoor
