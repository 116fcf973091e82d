/- SA: several texts in one (S7 R3 S8 S9 SA). -/
import Derived.Test.YtnhhbbjkeekneaaGreatDoorS6
import Derived.Test.YtnhhbbjkeekneaaGreatDoorRB
import Derived.Test.YtnhhbbjkeekneaaGreatDoorVA
import Derived.Great.BuildSlice
import Derived.BigRegion
import Derived.IntWalk
/- S7: contracts of Sum, Pair, Chain, All. -/
namespace Go.V
open Go.RowKit
theorem run_mk {P : Program} {t e : TypeId} {z : Value} {by_ : Nat} (ht : SlT P t e z by_) (hz : z.cells = #[z]) (n : Nat) (hb : by_ * n ≤ 281474976710656) (hm : n ≤ maxLen) (W : World) :
    (Instr.makeSlice t (.int .i64 (n : Int)) (.int .i64 (n : Int))).run P W = .ok (.slice (some ⟨W.heap.size, 0, none⟩) n n) (W.alloc (.cells (List.replicate n z).toArray e)) := by
  obtain ⟨i, hi, hzz, hsz, hby⟩ := ht.inf
  have h63 : (n : Int) ≤ 9223372036854775807 := by simp [maxLen] at hm; omega
  have hb' : (i.bytes : Int) * (n : Int) ≤ 281474976710656 := by
    have : ((i.bytes * n : Nat) : Int) ≤ 281474976710656 := by rw [hby]; omega
    rwa [Int.natCast_mul] at this
  have hr := run_make (P := P) W t e i z ht.sl hi hzz .i64 .i64 n n (by omega) (Int.le_refl _) hb' h63
  rw [hr]
  simp only [Int.toNat_natCast, hsz, Nat.mul_one, hz]
  congr 3
  apply Array.ext
  · simp [madeCells]
  · intro j h1 h2
    simp [madeCells, Nat.mod_one]
theorem wp_mk {P : Program} {w : World} {ops : Array Oper} {rest : List Oper} {o : Oper} {a : Act} {Q : Exit → Act → World → Prop} {t e : TypeId} {z : Value} {by_ : Nat} (ht : SlT P t e z by_) (hz : z.cells = #[z]) (x y : Operand) (hgd : o.guard = none) (ho : o.op = .makeSlice t x y) (n : Nat)
    (hx : a.eval x = .int .i64 (n : Int)) (hy : a.eval y = .int .i64 (n : Int)) (hb : by_ * n ≤ 281474976710656) (hm : n ≤ maxLen) (l : List Value) (hl : l = List.replicate n z)
    (h : wpList P ops Q rest (a.put o.dst (.slice (some ⟨w.heap.size, 0, none⟩) n n)) (w.alloc (.cells l.toArray e))) : wpList P ops Q (o :: rest) a w := by
  refine wpList_plain hgd fun K hK => ?_
  subst hl
  unfold Oper.wp execOp
  simp only [ho, hx, hy, Sem.run_bind, Sem.run_pure, run_mk ht hz n hb hm, Result.andThen_ok]
  exact hK _ _ h
/-- one text, two texts, in a new block -/
theorem Rd.tx1 {w : World} {F : Nat → Prop} {v : Value} {bs : List UInt8} (t : TypeId) (h : Rd w F v (bys bs)) : Rd (w.alloc (.cells #[v] t)) (fun _ => True) (.slice (some ⟨w.heap.size, 0, none⟩) 1 1) (tx [bs]) := by
  have hal : Below w.heap.size w (w.alloc (.cells #[v] t)) := (Below.refl _ _).alloc (Nat.le_refl _) _
  unfold tx Rd
  refine ⟨_, 1, rfl, Nat.le_refl _, by simp [maxLen], fun h => by simp at h, fun _ => ⟨_, _, rfl, trivial, ?_⟩⟩
  refine RdC.mk (us := [v]) (Blk.new w t #[v]) rfl (fun i u hu => by rw [Nat.zero_add]; exact hu) (fun i u d hu hd => ?_)
  cases i with
  | zero => simp at hu hd; subst hu hd; exact (h.below hal).weak (fun _ _ _ => trivial)
  | succ i => simp at hu
theorem Rd.tx2 {w : World} {F G : Nat → Prop} {v u : Value} {xs bs : List UInt8} (t : TypeId) (h : Rd w F v (bys xs)) (k : Rd w G u (bys bs)) : Rd (w.alloc (.cells #[v, u] t)) (fun _ => True) (.slice (some ⟨w.heap.size, 0, none⟩) 2 2) (tx [xs, bs]) := by
  have hal : Below w.heap.size w (w.alloc (.cells #[v, u] t)) := (Below.refl _ _).alloc (Nat.le_refl _) _
  unfold tx Rd
  refine ⟨_, 2, rfl, Nat.le_refl _, by simp [maxLen], fun h => by simp at h, fun _ => ⟨_, _, rfl, trivial, ?_⟩⟩
  refine RdC.mk (us := [v, u]) (Blk.new w t #[v, u]) rfl (fun i u hu => by rw [Nat.zero_add]; exact hu) (fun i x d hx hd => ?_)
  rcases i with _ | _ | i
  · simp at hx hd; subst hx hd; exact (h.below hal).weak (fun _ _ _ => trivial)
  · simp at hx hd; subst hx hd; exact (k.below hal).weak (fun _ _ _ => trivial)
  · simp at hx
end Go.V
namespace Go.Proofs.YtnhhbbjkeekneaaGreatDoor
open Go.RowKit Go.V
theorem slBB : SlT Tryz.prog 28 33 (.slice none 0 0) 24 := .of Tryz.underlying28 (by kernel_rfl) rfl
theorem bs1 (v : Value) (hv : v.cells = #[v]) : ∀ W : World, (Instr.buildSlice 28 1 #[(0, v)]).run Tryz.prog W = .ok (.slice (some ⟨W.heap.size, 0, none⟩) 1 1) (W.alloc (.cells #[v] 33)) := fun _ => run_buildSlice1 _ _ _ v _ slBB hv

theorem sum_any (v : Value) (bs : List UInt8) (F : Nat → Prop) (w : World) (hK : KS w) (ht : Rd w F v (bys bs)) (hn : bs.length < 288230376151711744) :
    Calls Tryz.prog 60 #[v] w fun e w' => e = .returned (.agg (bvs (shaF bs)).toArray) ∧ Below w.heap.size w w' := by
  obtain ⟨A, c, rfl⟩ := ht.shape
  have hbs := bs1 (.slice A bs.length c) rfl
  go_enter Tryz.func60, Tryz.ntmps60
  go_wp2_with (refine wp_new 32 rfl rfl zero25 ?_)
  have hz := Blk.new' w 32 (zs8 32)
  have hB1 : Below w.heap.size w (w.alloc (.cells (zs8 32).toArray 32)) := (Below.refl _ _).alloc (Nat.le_refl _) _
  have hB2 := hB1.alloc (by simp) (.cells #[.slice A bs.length c] 33)
  refine (digest_any _ [bs] _ _ (hK.below hB2) (by simpa using Rd.tx1 33 (ht.below hB1)) (by simpa using hn)).mono ?_
  rintro e w3 ⟨rfl, hB3⟩
  have hz3 := (hz.alloc (.cells #[.slice A bs.length c] 33)).below hB3
  have hB3' := hB2.trans (hB3.mono (by simp; omega))
  rw [show [bs].flatten = bs from by simp] at *
  go_wp2_with (refine wp_st 32 (.tmp 2) (.tmp 5) rfl rfl rfl (f := 0) rfl (l := bvs (shaF bs)) rfl hz3 (by simp [zs8, len_bvs, len_sha]) (by rw [len_bvs, len_sha]; exact size25) (oneCell_bvs _) ?_; intro w7 hb7 hG7)
  rw [set25 _ (len_sha bs)] at hb7
  refine ret_cell rfl rfl hb7.whole Tryz.underlying32 rfl (by rw [len_bvs, len_sha]; exact size25) rfl ?_
  exact ⟨rfl, hB3'.grown hG7 hB3'.size (by intro k hk; injection hk with hk; omega)⟩

theorem und25 : Tryz.prog.underlying 32 = some (.array 32 5) := Tryz.underlying32
theorem bs2 (v u : Value) (hv : v.cells = #[v]) (hu : u.cells = #[u]) : ∀ W : World, (Instr.buildSlice 28 2 #[(0, v), (1, u)]).run Tryz.prog W = .ok (.slice (some ⟨W.heap.size, 0, none⟩) 2 2) (W.alloc (.cells #[v, u] 33)) := fun W => by
  obtain ⟨i, hi, hz, hsz, hby⟩ := slBB.inf
  simp [Instr.buildSlice, run_underlying slBB.sl, sizeOf, typeInfo, hi, hsz, zeroValue, hz, Instr.fill, hv, hu]
  have e1 : (((Array.map (fun x => (Value.slice none 0 0).cells[x % (Value.slice none 0 0).cells.size]!) (Array.range 2)).setIfInBounds 0 v).setIfInBounds 1 u) = #[v, u] := by
    rw [show Array.range 2 = #[0, 1] from rfl]
    simp
  rw [e1]
  simp [newRow]
set_option maxRecDepth 100000 in
theorem pair_any (x y : List UInt8) (w : World) (hK : KS w) (hx : x.length = 32) (hy : y.length = 32) :
    Calls Tryz.prog 157 #[.agg (bvs x).toArray, .agg (bvs y).toArray] w fun e w' => e = .returned (.agg (bvs (shaF (x ++ y))).toArray) ∧ Below w.heap.size w w' := by
  have hsA := fun W => run_sla_all und25 size8 w.heap.size 0 (by omega) W
  have hsB := fun W => run_sla_all und25 size8 (w.heap.size + 1) 0 (by omega) W
  have hbs := bs2 (.slice (some ⟨w.heap.size, 0, none⟩) 32 32) (.slice (some ⟨w.heap.size + 1, 0, none⟩) 32 32) rfl rfl
  go_enter Tryz.func157, Tryz.ntmps157
  go_wp2_with (refine wp_new 32 rfl rfl zero25 ?_)
  have b0 : Blk (((w.alloc (.cells (bvs x).toArray 32)).alloc (.cells (bvs y).toArray 32)).alloc (.cells (zs8 32).toArray 32)) w.heap.size 32 (bvs x) := ((Blk.new' w 32 _).alloc _).alloc _
  have b1 : Blk (((w.alloc (.cells (bvs x).toArray 32)).alloc (.cells (bvs y).toArray 32)).alloc (.cells (zs8 32).toArray 32)) (w.heap.size + 1) 32 (bvs y) := by
    have := (Blk.new' (w.alloc (.cells (bvs x).toArray 32)) 32 (bvs y)).alloc (.cells (zs8 32).toArray 32)
    simpa using this
  have b2 : Blk (((w.alloc (.cells (bvs x).toArray 32)).alloc (.cells (bvs y).toArray 32)).alloc (.cells (zs8 32).toArray 32)) (w.heap.size + 1 + 1) 32 (zs8 32) := by
    have := Blk.new' ((w.alloc (.cells (bvs x).toArray 32)).alloc (.cells (bvs y).toArray 32)) 32 (zs8 32)
    simpa using this
  have hB0 : Below w.heap.size w (((w.alloc (.cells (bvs x).toArray 32)).alloc (.cells (bvs y).toArray 32)).alloc (.cells (zs8 32).toArray 32)) :=
    (((Below.refl _ _).alloc (Nat.le_refl _) _).alloc (by simp) _).alloc (by simp; omega) _
  obtain ⟨w0, hw0⟩ : ∃ w0, w0 = (((w.alloc (.cells (bvs x).toArray 32)).alloc (.cells (bvs y).toArray 32)).alloc (.cells (zs8 32).toArray 32)) := ⟨_, rfl⟩
  rw [← hw0] at b0 b1 b2 hB0 ⊢
  clear hw0
  have rx := Blk.rdcut b0.drew 32 32 (by omega) (by omega) (by simp [maxLen])
  have ry := Blk.rdcut b1.drew 32 32 (by omega) (by omega) (by simp [maxLen])
  rw [List.take_of_length_le (by omega)] at rx ry
  refine wp_region_tail 2 (by kernel_rfl) (by kernel_rfl) ?_
  simp only [List.take_succ_cons, List.take_zero, List.drop_succ_cons, List.drop_zero]
  repeat still_step
  refine wpStill_nil ?_
  go_wp2_with (fail)
  have hB2 : Below w.heap.size w (w0.drew.alloc (.cells #[.slice (some ⟨w.heap.size, 0, none⟩) 32 32, .slice (some ⟨w.heap.size + 1, 0, none⟩) 32 32] 33)) := hB0.drew.alloc hB0.size _
  refine (digest_any _ [x, y] _ _ (hK.below hB2) (Rd.tx2 33 rx ry) (by simp; omega)).mono ?_
  rintro e w3 ⟨rfl, hB3⟩
  have hz3 := (b2.drew.alloc (.cells #[.slice (some ⟨w.heap.size, 0, none⟩) 32 32, .slice (some ⟨w.heap.size + 1, 0, none⟩) 32 32] 33)).below hB3
  have hB3' := hB2.trans (hB3.mono (by simp; have := hB0.size; omega))
  rw [show [x, y].flatten = x ++ y from by simp] at *
  go_wp2_with (refine wp_st 32 (.tmp 4) (.tmp 8) rfl rfl rfl (f := 0) rfl (l := bvs (shaF (x ++ y))) rfl hz3 (by simp [zs8, len_bvs, len_sha]) (by rw [len_bvs, len_sha]; exact size25) (oneCell_bvs _) ?_; intro w7 hb7 hG7)
  rw [set25 _ (len_sha _)] at hb7
  refine ret_cell rfl rfl hb7.whole Tryz.underlying32 rfl (by rw [len_bvs, len_sha]; exact size25) rfl ?_
  exact ⟨rfl, hB3'.grown hG7 hB3'.size (by intro k hk; injection hk with hk; omega)⟩

/-- slices that read as texts, in blocks other than g -/
def TR (w : World) (g : Nat) (us : List Value) (ts : List (List UInt8)) : Prop := us.length = ts.length ∧ ∀ (i : Nat) (u : Value) (t : List UInt8), us[i]? = some u → ts[i]? = some t → Rd w (fun b => b ≠ g) u (bys t)
theorem TR.keep {w w' : World} {g : Nat} {us : List Value} {ts : List (List UInt8)} (h : TR w g us ts) (hb : ∀ b, b < w.heap.size → b ≠ g → w'.heap[b]? = w.heap[b]?) : TR w' g us ts :=
  ⟨h.1, fun i u t hu ht => (h.2 i u t hu ht).keep fun b hl hn => ⟨hn, hb b hl hn⟩⟩
theorem TR.snoc {w : World} {g : Nat} {us : List Value} {ts : List (List UInt8)} {u : Value} {t : List UInt8} (h : TR w g us ts) (hu : Rd w (fun b => b ≠ g) u (bys t)) : TR w g (us ++ [u]) (ts ++ [t]) := by
  refine ⟨by simp [h.1], fun i x y hx hy => ?_⟩
  rcases Nat.lt_trichotomy i us.length with hi | hi | hi
  · rw [List.getElem?_append_left hi] at hx
    rw [List.getElem?_append_left (by rw [← h.1]; exact hi)] at hy
    exact h.2 i x y hx hy
  · subst hi
    rw [List.getElem?_append_right (Nat.le_refl _), Nat.sub_self] at hx
    rw [h.1, List.getElem?_append_right (Nat.le_refl _), Nat.sub_self] at hy
    simp at hx hy
    subst hx hy
    exact hu
  · have := (List.getElem?_eq_some_iff.1 hx).1
    simp at this
    omega
theorem TR.rd {w : World} {g : Nat} {t : TypeId} {us : List Value} {ts : List (List UInt8)} (h : TR w g us ts) (hb : Blk w g t us) (hm : us.length ≤ maxLen) : Rd w (fun _ => True) (.slice (some ⟨g, 0, none⟩) us.length us.length) (tx ts) := by
  unfold tx Rd
  refine ⟨_, us.length, by rw [h.1], by rw [h.1]; exact Nat.le_refl _, hm, fun h0 => by rw [List.eq_nil_of_length_eq_zero h0]; rfl, fun _ => ⟨_, _, rfl, trivial, ?_⟩⟩
  refine RdC.mk (us := us) hb (by simp [h.1]) (fun i u hu => by rw [Nat.zero_add]; exact hu) (fun i u d hu hd => ?_)
  rw [List.getElem?_map] at hd
  cases he : ts[i]? with
  | none => rw [he] at hd; cases hd
  | some t' =>
    rw [he] at hd
    simp at hd
    subst hd
    exact (h.2 i u t' hu he).weak (fun _ _ _ => trivial)
end Go.Proofs.YtnhhbbjkeekneaaGreatDoor
/- R3: contract of the document's ReadFixed, where the bytes are there. -/
namespace Go.Proofs.YtnhhbbjkeekneaaGreatDoor
open Go.RowKit Go.V
/-- the number of n bytes from a place on, the highest first -/
def nb (b : List UInt8) (k : Nat) : Nat → Nat
  | 0 => 0
  | n + 1 => 256 * nb b k n + (b.getD (k + n) 0).toNat
end Go.Proofs.YtnhhbbjkeekneaaGreatDoor
/- S8: contracts of the document's ReadFixed, Word. -/
namespace Go.Proofs.YtnhhbbjkeekneaaGreatDoor
open Go.RowKit Go.V

end Go.Proofs.YtnhhbbjkeekneaaGreatDoor
/- S9: contract of the document's block. -/
namespace Go.V
open Go.RowKit
/-- 'v reads as these words' -/
def RdW (w : World) (F : Nat → Prop) (v : Value) (l : List UInt32) : Prop := ∃ A c, v = .slice A l.length c ∧ l.length ≤ c ∧ c ≤ maxLen ∧ ∀ j (u : Value), (wvs l)[j]? = some u → ∃ g off, A = some ⟨g, off, none⟩ ∧ F g ∧ w.cell? ⟨g, off + j, none⟩ = some u
theorem RdW.keep {w w' : World} {F : Nat → Prop} {v : Value} {l : List UInt32} (h : RdW w F v l) (hb : ∀ b, b < w.heap.size → F b → w'.heap[b]? = w.heap[b]?) : RdW w' F v l := by
  obtain ⟨A, c, hv, h1, h2, h3⟩ := h
  refine ⟨A, c, hv, h1, h2, fun j u hu => ?_⟩
  obtain ⟨g, off, hA, hg, hc⟩ := h3 j u hu
  exact ⟨g, off, hA, hg, (World.cell?_of_block (hb g (lt_of_cell hc) hg)).trans hc⟩
theorem RdW.below {w w' : World} {F : Nat → Prop} {v : Value} {l : List UInt32} (h : RdW w F v l) (hB : Below w.heap.size w w') : RdW w' F v l := h.keep fun b hb _ => hB.block b hb
theorem RdW.of_own {w : World} {base : Nat} {e : TypeId} {v : Value} {n : Nat} {l : List UInt32} (h : w.ownsRow base e 1 v n (wvs l)) : RdW w (fun b => base ≤ b) v l := by
  have hn : n = l.length := by have := h.1; simp [wvs] at this; omega
  subst hn
  rcases h.2 with ⟨rfl, h0⟩ | ⟨g, cap, cur, rfl, hg, hh, h1, h2, h3, h4⟩
  · have : l = [] := List.eq_nil_of_length_eq_zero h0
    subst this
    exact ⟨none, 0, rfl, Nat.le_refl _, by simp [maxLen], fun j u hu => by simp [wvs] at hu⟩
  · refine ⟨_, cap, rfl, h1, h2, fun j u hu => ⟨g, 0, rfl, hg, ?_⟩⟩
    have := h.cells (g := g) rfl j u hu
    rw [add_mk] at this
    exact this
end Go.V
namespace Go.Proofs.YtnhhbbjkeekneaaGreatDoor
open Go.RowKit Go.V
/-- what holds while the rounds go -/
def QS (b : List UInt8) (w w' : World) : Prop := Blk w' w.heap.size 130 (wvs (wl b 64)) ∧ Below w.heap.size w w'
def QSx (b : List UInt8) (k : Nat) (x : UInt32) (w w' : World) : Prop := w'.cell? ⟨w.heap.size, k, none⟩ = some (.int .u32 (x.toNat : Int)) ∧ QS b w w'
theorem QS.x {b : List UInt8} {k : Nat} {x : UInt32} {w w' : World} (h : QS b w w') (hx : (wl b 64)[k]? = some x) : QSx b k x w w' := ⟨h.1.cellAt k _ (wvs_at _ _ _ hx), h⟩
theorem QS.belowR {b : List UInt8} {k : Nat} {x : UInt32} {w w' w'' : World} (hB : Below w'.heap.size w' w'') (h : QS b w w') (hx : Hid ((wl b 64)[k]? = some x)) : QSx b k x w w'' := QS.x ⟨h.1.below hB, h.2.trans (hB.mono h.2.size)⟩ hx.out
end Go.Proofs.YtnhhbbjkeekneaaGreatDoor
/- SA: contracts of the document's Sum, Bytes, Pair, All, Chain. -/
namespace Go.Proofs.YtnhhbbjkeekneaaGreatDoor
open Go.RowKit Go.V
theorem own_keepB {w w' : World} {base : Nat} {e : TypeId} {sz : Nat} {v : Value} {n : Nat} {xs : List Value} (h : w.ownsRow base e sz v n xs) (hB : Below w.heap.size w w') : w'.ownsRow base e sz v n xs := by
  have hg : w.grownBy w' none := ⟨hB.os, hB.tape, hB.output, hB.size, fun k hk _ => hB.block k hk⟩
  refine h.kept hg ?_
  cases hv : v.ownBlock with
  | none => exact .inl rfl
  | some k => exact .inr (by simp)
theorem own_base {w : World} {base b2 : Nat} {e : TypeId} {sz : Nat} {v : Value} {n : Nat} {xs : List Value} (h : w.ownsRow base e sz v n xs) (hb : b2 ≤ base) : w.ownsRow b2 e sz v n xs := by
  refine ⟨h.1, ?_⟩
  rcases h.2 with hn | ⟨g, cap, cur, hv, hbb, rest⟩
  · exact .inl hn
  · exact .inr ⟨g, cap, cur, hv, Nat.le_trans hb hbb, rest⟩
theorem one_zs8 : ∀ v ∈ zs8 32, v.oneCell' = true := by
  intro v hv
  have := List.eq_of_mem_replicate hv
  rw [this]
  rfl
theorem bld25 : ∀ W : World, (Instr.build 32 ([] : List (Nat × Value)).toArray).run Tryz.prog W = .ok (.agg (zs8 32).toArray) W := fun _ => by kernel_rfl
/-- two digests and a place for a third -/
def P3 (x y : List UInt8) (w w' : World) : Prop := Blk w' w.heap.size 32 (bvs x) ∧ Blk w' (w.heap.size + 1) 32 (bvs y) ∧ Blk w' (w.heap.size + 1 + 1) 32 (zs8 32) ∧ Below w.heap.size w w'
theorem P3.below {x y : List UInt8} {w w' w'' : World} (h : P3 x y w w') (hB : Below w'.heap.size w' w'') : P3 x y w w'' := ⟨h.1.below hB, h.2.1.below hB, h.2.2.1.below hB, h.2.2.2.trans (hB.mono h.2.2.2.size)⟩
theorem P3.new (x y : List UInt8) (w : World) : P3 x y w (((w.alloc (.cells (bvs x).toArray 32)).alloc (.cells (bvs y).toArray 32)).alloc (.cells (zs8 32).toArray 32)) := by
  refine ⟨((Blk.new' w 32 _).alloc _).alloc _, ?_, ?_, (((Below.refl _ _).alloc (Nat.le_refl _) _).alloc (by simp) _).alloc (by simp; omega) _⟩
  · have := (Blk.new' (w.alloc (.cells (bvs x).toArray 32)) 32 (bvs y)).alloc (.cells (zs8 32).toArray 32)
    simpa using this
  · have := Blk.new' ((w.alloc (.cells (bvs x).toArray 32)).alloc (.cells (bvs y).toArray 32)) 32 (zs8 32)
    simpa using this
end Go.Proofs.YtnhhbbjkeekneaaGreatDoor
