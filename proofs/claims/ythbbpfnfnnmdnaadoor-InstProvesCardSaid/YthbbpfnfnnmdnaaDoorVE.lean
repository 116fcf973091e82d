/- VE: several texts in one (RB Y0 VE). -/
import Derived.Test.YthbbpfnfnnmdnaaDoorN3
import Derived.Test.YthbbpfnfnnmdnaaDoorVA
import Derived.Test.YthbbpfnfnnmdnaaDoorVH
import Derived.Test.YthbbpfnfnnmdnaaDoorLW
import Derived.Test.YthbbpfnfnnmdnaaDoorMP
import Derived.Stop.BytesEq
import Derived.Deep.DeepCutAuto
/- RB: contract of the document's Bytes (a digest's bytes). -/
namespace Go.Proofs.YthbbpfnfnnmdnaaDoor
open Go.RowKit Go.V
theorem rbytes_any (h : List UInt8) (w : World) (hl : h.length = 32) :
    Calls Tryd.prog 71 #[.agg (bvs h).toArray] w fun e w' => ∃ v', e = .returned v' ∧ NewB w w' v' h := by
  go_enter Tryd.func71, Tryd.ntmps71
  go_wp2
  have b0 : Blk (w.alloc (.cells (bvs h).toArray 41)) w.heap.size 41 (bvs h) := Blk.new' w 41 _
  have hB0 : Below w.heap.size w (w.alloc (.cells (bvs h).toArray 41)) := (Below.refl _ _).alloc (Nat.le_refl _) _
  go_loopw [3, 4] (fun v iv wr => ∃ i : Nat, i ≤ 32 ∧ iv = .int .i64 i ∧ wr.ownsRow (w.heap.size + 1) 5 1 v i (bvs (h.take i)) ∧ Blk wr w.heap.size 41 (bvs h) ∧ Below w.heap.size w wr) (fun _ iv _ => 32 - (intOf iv).toNat)
  case atStart => exact ⟨0, by omega, rfl, World.ownsRow_nil _ _ _ _, b0, hB0⟩
  case round =>
    obtain ⟨i, hi, rfl, ho, hb, hB⟩ := hrel
    by_cases hil : i < 32
    · obtain ⟨x, hx⟩ : ∃ x, h[i]? = some x := ⟨_, List.getElem?_eq_getElem (by omega)⟩
      have hcx := hb.cellAt i _ (bvs_at _ _ _ hx)
      unfold byteV at hcx
      have hih : i < h.length := by omega
      have hsn : Hid (bvs (h.take i) ++ [.int .u8 (x.toNat : Int)] = bvs (h.take (i + 1))) := by
        show _ = _
        rw [List.take_succ_eq_append_getElem hih]
        have : h[i] = x := by rw [List.getElem?_eq_getElem hih] at hx; injection hx
        rw [this]
        simp [bvs, byteV]
      clear hx hl
      have hbl := hb.lt
      go_wp2_with (refine wp_push (.tmp 9) (.tmp 12) 13 slB rfl rfl rfl rfl rfl (u := .int .u8 (x.toNat : Int)) rfl rfl rfl (by simp) rfl ho (by simp only [maxLen]; omega) (by omega) (by omega) ?_; intro v3 w3 ho3 hG3 _; refine wp_stop ?_)
      rw [hsn.out] at ho3
      have hB3 := hB.grown hG3 hB.size (fun k hk => by have := (ho.lt k hk).1; omega)
      have hb3 := hb.keep (hG3.block _ hb.lt (fun e => by have := (ho.lt _ e.symm).1; omega))
      refine wp_go ?_
      go_wp2
      go_roundw
      case rel => exact ⟨i + 1, by omega, by go_num, ho3, hb3, hB3⟩
      case measure => simp [intOf]; omega
    · have h32 : i = 32 := by omega
      subst h32
      rw [List.take_of_length_le (by omega)] at ho
      go_wp2
      go_ret
      refine ⟨_, rfl, ?_, hB⟩
      rw [hl]
      exact own_weak ho (by omega)
end Go.Proofs.YthbbpfnfnnmdnaaDoor
/- Y0: several texts in one. -/
/- Y0: layer 8: messages as lists, in memory. No project text. -/
namespace Go.V
open Go.RowKit
structure Mg where
  k : Int
  f : Int
  v : Int
  r : Int
  s : Int
  h : List UInt8
  b : List UInt8
  ps : List (List UInt8)
/-- its cells: body and parts are slices -/
def Mg.l (m : Mg) (ub up : Value) : List Value := .int .i64 m.k :: .int .i64 m.f :: .int .i64 m.v :: .int .i64 m.r :: .int .i64 m.s :: (bvs m.h ++ [ub, up])
def Mg.val (m : Mg) (ub up : Value) : Value := .agg (m.l ub up).toArray
def un (x : Int) : Nat := (x % 18446744073709551616).toNat
theorem un_lt (x : Int) : un x < 18446744073709551616 := by unfold un; omega
theorem un_wrap (x : Int) : IntKind.u64.wrap x = (un x : Int) := by rw [IntKind.wrap_u64]; unfold un; omega
def tb1 (t : List UInt8) : List UInt8 := packed t.length ++ t
def numB (m : Mg) : Bool := decide (1 ≤ m.k ∧ m.k ≤ 12 ∧ 0 ≤ m.f ∧ m.f ≤ 15 ∧ 0 ≤ m.v ∧ m.v ≤ 60 ∧ 0 ≤ m.r ∧ m.r ≤ 40 ∧ 0 ≤ m.s ∧ m.s ≤ 60)
def longB (m : Mg) : Bool := decide (3000 < m.b.length ∨ 20 < m.ps.length ∨ ∃ t ∈ m.ps, 3000 < t.length)
theorem len_mg {m : Mg} (hh : m.h.length = 32) (ub up : Value) : (m.l ub up).length = 39 := by simp [Mg.l, bvs, hh]
theorem mg_body {m : Mg} (hh : m.h.length = 32) (ub up : Value) : (m.l ub up)[37]? = some ub := by
  have : (bvs m.h ++ [ub, up])[32]? = some ub := by rw [List.getElem?_append_right (by simp [bvs, hh])]; simp [bvs, hh]
  simpa [Mg.l] using this
theorem mg_parts {m : Mg} (hh : m.h.length = 32) (ub up : Value) : (m.l ub up)[38]? = some up := by
  have : (bvs m.h ++ [ub, up])[33]? = some up := by rw [List.getElem?_append_right (by simp [bvs, hh])]; simp [bvs, hh]
  simpa [Mg.l] using this
theorem mg_hash {m : Mg} (_hh : m.h.length = 32) (ub up : Value) (j : Nat) (v : Value) (hv : (bvs m.h)[j]? = some v) : (m.l ub up)[5 + j]? = some v := by
  have hj := (List.getElem?_eq_some_iff.1 hv).1
  have : (bvs m.h ++ [ub, up])[j]? = some v := by rw [List.getElem?_append_left hj]; exact hv
  rw [show 5 + j = j + 5 from by omega]
  simpa [Mg.l] using this
theorem one_mg {m : Mg} {A B : Option Addr} {n c k d : Nat} : ∀ v ∈ m.l (.slice A n c) (.slice B k d), v.oneCell' = true := by
  intro v hv
  simp only [Mg.l, List.mem_cons, List.mem_append] at hv
  rcases hv with rfl | rfl | rfl | rfl | rfl | hv | rfl | rfl | hv
  · rfl
  · rfl
  · rfl
  · rfl
  · rfl
  · exact oneCell_bvs _ v hv
  · rfl
  · rfl
  · cases hv
theorem own_join {w : World} {b : Nat} {e : TypeId} {v : Value} {p q : List UInt8} (h : w.ownsRow b e 1 v (p.length + q.length) (bvs p ++ bvs q)) : w.ownsRow b e 1 v (p ++ q).length (bvs (p ++ q)) := by
  rw [List.length_append, show bvs (p ++ q) = bvs p ++ bvs q from by simp [bvs]]
  exact h
theorem long_bd {m : Mg} (h : longB m = false) : m.b.length ≤ 3000 ∧ m.ps.length ≤ 20 ∧ ∀ t ∈ m.ps, t.length ≤ 3000 := by
  unfold longB at h
  rw [decide_eq_false_iff_not] at h
  refine ⟨by omega, by omega, fun t ht => ?_⟩
  rcases Nat.lt_or_ge 3000 t.length with h3 | h3
  · exact absurd (.inr (.inr ⟨t, ht, h3⟩)) h
  · exact h3
theorem len_tb1 {t : List UInt8} (h : t.length ≤ 3000) : (tb1 t).length ≤ 3010 := by
  have := psz_bd t.length
  unfold tb1
  rw [List.length_append, length_packed]
  omega
theorem len_parts : ∀ (ps : List (List UInt8)), (∀ t ∈ ps, t.length ≤ 3000) → (ps.flatMap tb1).length ≤ 3010 * ps.length
  | [], _ => by simp
  | t :: ps, h => by
    rw [List.flatMap_cons, List.length_append, List.length_cons]
    have h1 := len_tb1 (h t (by simp))
    have h2 := len_parts ps (fun x hx => h x (by simp [hx]))
    omega
theorem take_snocT {l : List (List UInt8)} {i : Nat} {r : List UInt8} (h : l[i]? = some r) : l.take (i + 1) = l.take i ++ [r] := by
  rw [List.take_add_one, h]; rfl
def in64w (x : Int) : Prop := -9223372036854775808 ≤ x ∧ x ≤ 9223372036854775807
structure MgIn (m : Mg) : Prop where
  k : in64w m.k
  f : in64w m.f
  v : in64w m.v
  r : in64w m.r
  s : in64w m.s
  h : m.h.length = 32
end Go.V
namespace Go.Proofs.YthbbpfnfnnmdnaaDoor
open Go.RowKit Go.V
def Mg.hd (m : Mg) : List UInt8 := ((((fixR 1 (un m.k) ++ fixR 1 (un m.f)) ++ fixR 2 (un m.v)) ++ fixR 2 (un m.r)) ++ fixR 2 (un m.s)) ++ m.h
def Mg.by (m : Mg) : List UInt8 := (((Mg.hd m) ++ (packed m.b.length ++ m.b)) ++ packed m.ps.length) ++ m.ps.flatMap tb1
theorem len_fixR1 (x : Nat) : (fixR 1 x).length = 1 := by unfold fixR; rw [if_pos (by unfold okN; omega)]; simp [fixB]
theorem len_fixR2 (x : Nat) : (fixR 2 x).length = 2 := by unfold fixR; rw [if_pos (by unfold okN; omega)]; simp [fixB]
theorem len_hd {m : Mg} (hh : m.h.length = 32) : (Mg.hd m).length = 40 := by
  unfold Mg.hd
  simp only [List.length_append, len_fixR1, len_fixR2, hh]
theorem sizeM : (Tryd.prog.info? 59).map (·.size) = some 39 := by kernel_rfl
end Go.Proofs.YthbbpfnfnnmdnaaDoor
/- Y1: layer 8: contract of the document's Bytes. -/
namespace Go.Proofs.YthbbpfnfnnmdnaaDoor
open Go.RowKit Go.V
end Go.Proofs.YthbbpfnfnnmdnaaDoor
/- Y2: layer 8: contracts of the document's Numbers, Long. -/
namespace Go.Proofs.YthbbpfnfnnmdnaaDoor
open Go.RowKit Go.V
set_option maxHeartbeats 1000000 in
theorem num8_any (m : Mg) (ub up : Value) (w : World) :
    Calls Tryd.prog 86 #[m.val ub up] w fun e w' => e = .returned (.bool (numB m)) ∧ Below w.heap.size w w' := by
  unfold Mg.val
  have hb := Blk.new' w 59 (m.l ub up)
  have hB : Below w.heap.size w (w.alloc (.cells (m.l ub up).toArray 59)) := (Below.refl _ _).alloc (Nat.le_refl _) _
  have c0 := hb.cellAt 0 _ rfl
  have c1 := hb.cellAt 1 _ rfl
  have c2 := hb.cellAt 2 _ rfl
  have c3 := hb.cellAt 3 _ rfl
  have c4 := hb.cellAt 4 _ rfl
  have hr : numB m = decide (1 ≤ m.k ∧ m.k ≤ 12 ∧ 0 ≤ m.f ∧ m.f ≤ 15 ∧ 0 ≤ m.v ∧ m.v ≤ 60 ∧ 0 ≤ m.r ∧ m.r ≤ 40 ∧ 0 ≤ m.s ∧ m.s ≤ 60) := rfl
  obtain ⟨q, hq⟩ : ∃ q, q = numB m := ⟨_, rfl⟩
  rw [← hq] at hr ⊢
  have Hr := hid hr
  clear hr hq
  go_enter Tryd.func86, Tryd.ntmps86
  go_wp2
  all_goals (go_ret; exact ⟨by rw [Hr.out]; exact ret_b (by rw [Bool.eq_iff_iff]; simp; try omega), hB⟩)
end Go.Proofs.YthbbpfnfnnmdnaaDoor
/- Y3: layer 8: contracts of the document's SameParts, Same, Put. -/
namespace Go.Proofs.YthbbpfnfnnmdnaaDoor
open Go.RowKit Go.V
set_option maxRecDepth 100000 in
set_option maxHeartbeats 2000000 in
theorem sameParts_any (v1 v2 : Value) (l : List (List UInt8)) (F1 F2 : Nat → Prop) (w : World) (h1 : Rd w F1 v1 (tx l)) (h2 : Rd w F2 v2 (tx l)) (hn : l.length ≤ 1000000) :
    Calls Tryd.prog 16 #[v1, v2] w fun e w' => e = .returned (.bool true) ∧ Below w.heap.size w w' := by
  obtain ⟨A1, c1, rfl, _, _⟩ := h1.slShape
  obtain ⟨A2, c2, rfl, _, _⟩ := h2.slShape
  go_enter Tryd.func16, Tryd.ntmps16
  go_wp2
  go_loopw [5] (fun iv wr => ∃ i : Nat, i ≤ l.length ∧ iv = .int .i64 i ∧ Below w.heap.size w wr) (fun i _ => l.length - (intOf i).toNat)
  case atStart => exact ⟨0, Nat.zero_le _, rfl, Below.refl _ _⟩
  case round =>
    obtain ⟨i, hi, rfl, hBr⟩ := hrel
    by_cases hlt : i < l.length
    · obtain ⟨t, ht⟩ : ∃ t, l[i]? = some t := ⟨_, List.getElem?_eq_getElem hlt⟩
      have hI : (i : Int) < (l.length : Int) := by omega
      obtain ⟨G1, off1, u1, rfl, _, hx1, hu1⟩ := Rd.elem (h1.below hBr) i (bys t) (by rw [List.getElem?_map, ht]; rfl)
      obtain ⟨G2, off2, u2, rfl, _, hx2, hu2⟩ := Rd.elem (h2.below hBr) i (bys t) (by rw [List.getElem?_map, ht]; rfl)
      obtain ⟨B1, d1, rfl⟩ := hu1.shape
      obtain ⟨B2, d2, rfl⟩ := hu2.shape
      clear ht
      go_upto_region 6 with (fail)
      have H1 : Hid (∀ W, Ch nob wr W → W.cell? ⟨G1, off1 + i, none⟩ = some (.slice B1 t.length d1)) := fun W h => (World.cell?_of_block (h.block _ (lt_of_cell hx1) (fun h => h))).trans hx1
      have H2 : Hid (∀ W, Ch nob wr W → W.cell? ⟨G2, off2 + i, none⟩ = some (.slice B2 t.length d2)) := fun W h => (World.cell?_of_block (h.block _ (lt_of_cell hx2) (fun h => h))).trans hx2
      refine wp_region_noPanic ?_
      refine wp_region_held_drew (S := Ch nob wr) (by kernel_rfl) ((Ch.refl _ _).drew) (fun hHeld => ?_)
      refine tkP 0 rfl ?_
      refine tkP 1 rfl ?_
      refine tkP 2 rfl ?_
      refine tkF 3 rfl H1.out ?_
      refine tkP 4 rfl ?_
      refine tkP 5 rfl ?_
      refine tkP 6 rfl ?_
      refine tkF 7 rfl H2.out ?_
      refine rdH 8 rfl (fun K hK => ?_)
      go_simp
      refine (same_b _ _ t t _ _ _ (hu1.ext hHeld) (hu2.ext hHeld)).mono ?_
      rintro e' w11 ⟨rfl, hB11⟩
      rw [decide_eq_true rfl]
      have hC11 := hHeld.belowR hB11
      refine hK.out _ _ (hC11) (fun hHeld => ?_)
      clear hK K
      try simp only [nP]
      refine tkP 9 rfl ?_
      refine wpAnyH_done (by kernel_rfl) ?_ _
      refine NoPanic.normal ?_
      go_wp2
      go_roundw
      case rel => exact ⟨i + 1, by omega, by go_num, hBr.trans (hC11.below.mono hBr.size)⟩
      case measure => simp [intOf]; omega
    · have hi' : i = l.length := by omega
      subst hi'
      have hI : ¬ (l.length : Int) < (l.length : Int) := by omega
      go_wp2
      go_ret
      exact ⟨rfl, hBr⟩
def errM (m : Mg) : Nat := if 16 < m.ps.length then 4 else if numB m then 0 else 15
theorem len_by {m : Mg} (hh : m.h.length = 32) (hlo : longB m = false) : (Mg.by m).length ≤ 63260 := by
  obtain ⟨h1, h2, h3⟩ := long_bd hlo
  have h4 := len_parts m.ps h3
  have h5 := psz_bd m.b.length
  have h6 := psz_bd m.ps.length
  unfold Mg.by
  simp only [List.length_append, length_packed, len_hd hh]
  omega
end Go.Proofs.YthbbpfnfnnmdnaaDoor
/- Y4: layer 8: contract of the document's Copied. -/
namespace Go.V
open Go.RowKit
end Go.V
namespace Go.V
end Go.V
namespace Go.Proofs.YthbbpfnfnnmdnaaDoor
open Go.RowKit Go.V
theorem slBB8 : SlT Tryd.prog 30 35 (.slice none 0 0) 24 := .of Tryd.underlying30 (by kernel_rfl) rfl
theorem sizeSl8 : (Tryd.prog.info? 35).map (·.size) = some 1 := by kernel_rfl
theorem sizeSS8 : (Tryd.prog.info? 30).map (·.size) = some 1 := by kernel_rfl
def zM : List Value := .int .i64 0 :: .int .i64 0 :: .int .i64 0 :: .int .i64 0 :: .int .i64 0 :: (zs8 32 ++ [.slice none 0 0, .slice none 0 0])
theorem zeroM : (Tryd.prog.info? 59).map (·.zero) = some (some (.agg zM.toArray)) := by kernel_rfl
theorem len_zM : zM.length = 39 := by simp [zM, zs8]
end Go.Proofs.YthbbpfnfnnmdnaaDoor
/- VE: laws of arrays whose elements are arrays or structs; copies that end with the target; an empty slice with room. No project text. -/
namespace Go.V
open Go.RowKit
section
variable {P : Program} {w : World} {ops : Array Oper} {rest : List Oper} {o : Oper} {a : Act} {Q : Exit → Act → World → Prop}
/-- an element, s cells wide, of an array value -/
theorem wp_idxW (t : TypeId) (x y : Operand) (hgd : o.guard = none) (ho : o.op = .index t x y) {l : List Value} (hx : a.eval x = .agg l.toArray) {k : Nat} (hy : a.eval y = .int .i64 (k : Int))
    {n : Nat} {e : TypeId} (hu : P.underlying t = some (.array n e)) (hn : k < n) (hag : ∀ W : World, (isAgg e).run P W = .ok true W) {s : Nat} (hsz : (P.info? e).map (·.size) = some s)
    (h : wpList P ops Q rest (a.put o.dst (.agg ((l.drop (k * s)).take s).toArray)) w) : wpList P ops Q (o :: rest) a w := by
  refine wpList_plain hgd fun K hK => ?_
  cases hq : P.info? e with
  | none => simp [hq] at hsz
  | some i =>
    have hi : i.size = s := by simpa [hq] using hsz
    have hr : (Instr.index t (.agg l.toArray) (.int .i64 (k : Int))).run P w = .ok (.agg ((l.drop (k * s)).take s).toArray) w := by
      simp [Instr.index, asIntOf, run_underlying hu, sizeOf, typeInfo, hq, hi, hn, part, hag]
    unfold Oper.wp execOp
    simp only [ho, hx, hy, Sem.run_bind, Sem.run_pure, hr, Result.andThen_ok]
    exact hK _ _ h
end
/-- a whole block, laid in from its head -/
theorem set_all (cs l : List Value) (h : cs.length = l.length) : cs.take 0 ++ l ++ cs.drop (0 + l.length) = l := by
  rw [List.take_zero, List.nil_append, List.drop_of_length_le (by omega), List.append_nil]
theorem splice_all (cs l : List Value) (h : cs.length = l.length) : splice cs 0 l = l := by
  unfold splice
  rw [List.take_zero, List.nil_append, List.drop_of_length_le (by omega), List.append_nil]
end Go.V
