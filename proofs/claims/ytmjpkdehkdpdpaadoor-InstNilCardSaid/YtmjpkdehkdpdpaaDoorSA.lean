/- SA: several texts in one (S7 S8 S9 SA). -/
import Derived.Test.YtmjpkdehkdpdpaaDoorS6
import Derived.Test.YtmjpkdehkdpdpaaDoorR3
import Derived.Great.BuildSlice
import Derived.BigRegion
import Derived.IntWalk
import Derived.Test.YtmjpkdehkdpdpaaDoorVA
import Derived.Test.YtmjpkdehkdpdpaaDoorRB
/- S7: contracts of Sum, Pair, Chain, All. -/
namespace Go.V
open Go.RowKit
theorem run_mk {P : Program} {t e : TypeId} {z : Value} {by_ : Nat} (ht : SlT P t e z by_) (hz : z.cells = #[z]) (n : Nat) (hb : by_ * n ≤ 281474976710656) (hm : n ≤ maxLen) (W : World) :
    (Instr.makeSlice t (.int .i64 (n : Int)) (.int .i64 (n : Int))).run P W = .ok (.slice (some ⟨W.heap.size, 0, none⟩) n n) (W.alloc (.cells (List.replicate n z).toArray e)) := by
  obtain ⟨i, hi, hzz, hsz, hby⟩ := ht.inf
  have h63 : (n : Int) ≤ 9223372036854775807 := by simp [maxLen] at hm; omega
  have hb' : (i.bytes : Int) * (n : Int) ≤ 281474976710656 := by
    have : ((i.bytes * n : Nat) : Int) ≤ 281474976710656 := by rw [hby]; omega
    rwa [Int.natCast_mul] at this
  have hr := run_make (P := P) W t e i z ht.sl hi hzz .i64 .i64 n n (by omega) (Int.le_refl _) hb' h63
  rw [hr]
  simp only [Int.toNat_natCast, hsz, Nat.mul_one, hz]
  congr 3
  apply Array.ext
  · simp [madeCells]
  · intro j h1 h2
    simp [madeCells, Nat.mod_one]
theorem wp_mk {P : Program} {w : World} {ops : Array Oper} {rest : List Oper} {o : Oper} {a : Act} {Q : Exit → Act → World → Prop} {t e : TypeId} {z : Value} {by_ : Nat} (ht : SlT P t e z by_) (hz : z.cells = #[z]) (x y : Operand) (hgd : o.guard = none) (ho : o.op = .makeSlice t x y) (n : Nat)
    (hx : a.eval x = .int .i64 (n : Int)) (hy : a.eval y = .int .i64 (n : Int)) (hb : by_ * n ≤ 281474976710656) (hm : n ≤ maxLen) (l : List Value) (hl : l = List.replicate n z)
    (h : wpList P ops Q rest (a.put o.dst (.slice (some ⟨w.heap.size, 0, none⟩) n n)) (w.alloc (.cells l.toArray e))) : wpList P ops Q (o :: rest) a w := by
  refine wpList_plain hgd fun K hK => ?_
  subst hl
  unfold Oper.wp execOp
  simp only [ho, hx, hy, Sem.run_bind, Sem.run_pure, run_mk ht hz n hb hm, Result.andThen_ok]
  exact hK _ _ h
/-- one text, two texts, in a new block -/
theorem Rd.tx1 {w : World} {F : Nat → Prop} {v : Value} {bs : List UInt8} (t : TypeId) (h : Rd w F v (bys bs)) : Rd (w.alloc (.cells #[v] t)) (fun _ => True) (.slice (some ⟨w.heap.size, 0, none⟩) 1 1) (tx [bs]) := by
  have hal : Below w.heap.size w (w.alloc (.cells #[v] t)) := (Below.refl _ _).alloc (Nat.le_refl _) _
  unfold tx Rd
  refine ⟨_, 1, rfl, Nat.le_refl _, by simp [maxLen], fun h => by simp at h, fun _ => ⟨_, _, rfl, trivial, ?_⟩⟩
  refine RdC.mk (us := [v]) (Blk.new w t #[v]) rfl (fun i u hu => by rw [Nat.zero_add]; exact hu) (fun i u d hu hd => ?_)
  cases i with
  | zero => simp at hu hd; subst hu hd; exact (h.below hal).weak (fun _ _ _ => trivial)
  | succ i => simp at hu
theorem Rd.tx2 {w : World} {F G : Nat → Prop} {v u : Value} {xs bs : List UInt8} (t : TypeId) (h : Rd w F v (bys xs)) (k : Rd w G u (bys bs)) : Rd (w.alloc (.cells #[v, u] t)) (fun _ => True) (.slice (some ⟨w.heap.size, 0, none⟩) 2 2) (tx [xs, bs]) := by
  have hal : Below w.heap.size w (w.alloc (.cells #[v, u] t)) := (Below.refl _ _).alloc (Nat.le_refl _) _
  unfold tx Rd
  refine ⟨_, 2, rfl, Nat.le_refl _, by simp [maxLen], fun h => by simp at h, fun _ => ⟨_, _, rfl, trivial, ?_⟩⟩
  refine RdC.mk (us := [v, u]) (Blk.new w t #[v, u]) rfl (fun i u hu => by rw [Nat.zero_add]; exact hu) (fun i x d hx hd => ?_)
  rcases i with _ | _ | i
  · simp at hx hd; subst hx hd; exact (h.below hal).weak (fun _ _ _ => trivial)
  · simp at hx hd; subst hx hd; exact (k.below hal).weak (fun _ _ _ => trivial)
  · simp at hx
end Go.V
namespace Go.Proofs.YtmjpkdehkdpdpaaDoor
open Go.RowKit Go.V
theorem slBB : SlT Tryd.prog 30 35 (.slice none 0 0) 24 := .of Tryd.underlying30 (by kernel_rfl) rfl
theorem bs1 (v : Value) (hv : v.cells = #[v]) : ∀ W : World, (Instr.buildSlice 30 1 #[(0, v)]).run Tryd.prog W = .ok (.slice (some ⟨W.heap.size, 0, none⟩) 1 1) (W.alloc (.cells #[v] 35)) := fun _ => run_buildSlice1 _ _ _ v _ slBB hv

theorem sum_any (v : Value) (bs : List UInt8) (F : Nat → Prop) (w : World) (hK : KS w) (ht : Rd w F v (bys bs)) (hn : bs.length < 288230376151711744) :
    Calls Tryd.prog 55 #[v] w fun e w' => e = .returned (.agg (bvs (shaF bs)).toArray) ∧ Below w.heap.size w w' := by
  obtain ⟨A, c, rfl⟩ := ht.shape
  have hbs := bs1 (.slice A bs.length c) rfl
  go_enter Tryd.func55, Tryd.ntmps55
  go_wp2_with (refine wp_new 41 rfl rfl zero25 ?_)
  have hz := Blk.new' w 41 (zs8 32)
  have hB1 : Below w.heap.size w (w.alloc (.cells (zs8 32).toArray 41)) := (Below.refl _ _).alloc (Nat.le_refl _) _
  have hB2 := hB1.alloc (by simp) (.cells #[.slice A bs.length c] 35)
  refine (digest_any _ [bs] _ _ (hK.below hB2) (by simpa using Rd.tx1 35 (ht.below hB1)) (by simpa using hn)).mono ?_
  rintro e w3 ⟨rfl, hB3⟩
  have hz3 := (hz.alloc (.cells #[.slice A bs.length c] 35)).below hB3
  have hB3' := hB2.trans (hB3.mono (by simp; omega))
  rw [show [bs].flatten = bs from by simp] at *
  go_wp2_with (refine wp_st 41 (.tmp 2) (.tmp 5) rfl rfl rfl (f := 0) rfl (l := bvs (shaF bs)) rfl hz3 (by simp [zs8, len_bvs, len_sha]) (by rw [len_bvs, len_sha]; exact size25) (oneCell_bvs _) ?_; intro w7 hb7 hG7)
  rw [set25 _ (len_sha bs)] at hb7
  refine ret_cell rfl rfl hb7.whole Tryd.underlying41 rfl (by rw [len_bvs, len_sha]; exact size25) rfl ?_
  exact ⟨rfl, hB3'.grown hG7 hB3'.size (by intro k hk; injection hk with hk; omega)⟩

theorem und25 : Tryd.prog.underlying 41 = some (.array 32 5) := Tryd.underlying41
theorem bs2 (v u : Value) (hv : v.cells = #[v]) (hu : u.cells = #[u]) : ∀ W : World, (Instr.buildSlice 30 2 #[(0, v), (1, u)]).run Tryd.prog W = .ok (.slice (some ⟨W.heap.size, 0, none⟩) 2 2) (W.alloc (.cells #[v, u] 35)) := fun W => by
  obtain ⟨i, hi, hz, hsz, hby⟩ := slBB.inf
  simp [Instr.buildSlice, run_underlying slBB.sl, sizeOf, typeInfo, hi, hsz, zeroValue, hz, Instr.fill, hv, hu]
  have e1 : (((Array.map (fun x => (Value.slice none 0 0).cells[x % (Value.slice none 0 0).cells.size]!) (Array.range 2)).setIfInBounds 0 v).setIfInBounds 1 u) = #[v, u] := by
    rw [show Array.range 2 = #[0, 1] from rfl]
    simp
  rw [e1]
  simp [newRow]
def chF (h : List UInt8) : Nat → List UInt8
  | 0 => h
  | k + 1 => shaF (chF h k)
theorem len_ch (h : List UInt8) (hl : h.length = 32) : ∀ k, (chF h k).length = 32
  | 0 => hl
  | _ + 1 => len_sha _
/-- a text as it is told -/
def tt (t : List UInt8) : List UInt8 := packed t.length ++ t
theorem tt_len (t : List UInt8) (_h : t.length < 18446744073709551616) : (tt t).length ≤ t.length + 10 := by
  have := psz_bd t.length
  simp [tt, length_packed]
  omega
/-- slices that read as texts, in blocks other than g -/
def TR (w : World) (g : Nat) (us : List Value) (ts : List (List UInt8)) : Prop := us.length = ts.length ∧ ∀ (i : Nat) (u : Value) (t : List UInt8), us[i]? = some u → ts[i]? = some t → Rd w (fun b => b ≠ g) u (bys t)
theorem TR.keep {w w' : World} {g : Nat} {us : List Value} {ts : List (List UInt8)} (h : TR w g us ts) (hb : ∀ b, b < w.heap.size → b ≠ g → w'.heap[b]? = w.heap[b]?) : TR w' g us ts :=
  ⟨h.1, fun i u t hu ht => (h.2 i u t hu ht).keep fun b hl hn => ⟨hn, hb b hl hn⟩⟩
theorem TR.snoc {w : World} {g : Nat} {us : List Value} {ts : List (List UInt8)} {u : Value} {t : List UInt8} (h : TR w g us ts) (hu : Rd w (fun b => b ≠ g) u (bys t)) : TR w g (us ++ [u]) (ts ++ [t]) := by
  refine ⟨by simp [h.1], fun i x y hx hy => ?_⟩
  rcases Nat.lt_trichotomy i us.length with hi | hi | hi
  · rw [List.getElem?_append_left hi] at hx
    rw [List.getElem?_append_left (by rw [← h.1]; exact hi)] at hy
    exact h.2 i x y hx hy
  · subst hi
    rw [List.getElem?_append_right (Nat.le_refl _), Nat.sub_self] at hx
    rw [h.1, List.getElem?_append_right (Nat.le_refl _), Nat.sub_self] at hy
    simp at hx hy
    subst hx hy
    exact hu
  · have := (List.getElem?_eq_some_iff.1 hx).1
    simp at this
    omega
theorem TR.rd {w : World} {g : Nat} {t : TypeId} {us : List Value} {ts : List (List UInt8)} (h : TR w g us ts) (hb : Blk w g t us) (hm : us.length ≤ maxLen) : Rd w (fun _ => True) (.slice (some ⟨g, 0, none⟩) us.length us.length) (tx ts) := by
  unfold tx Rd
  refine ⟨_, us.length, by rw [h.1], by rw [h.1]; exact Nat.le_refl _, hm, fun h0 => by rw [List.eq_nil_of_length_eq_zero h0]; rfl, fun _ => ⟨_, _, rfl, trivial, ?_⟩⟩
  refine RdC.mk (us := us) hb (by simp [h.1]) (fun i u hu => by rw [Nat.zero_add]; exact hu) (fun i u d hu hd => ?_)
  rw [List.getElem?_map] at hd
  cases he : ts[i]? with
  | none => rw [he] at hd; cases hd
  | some t' =>
    rw [he] at hd
    simp at hd
    subst hd
    exact (h.2 i u t' hu he).weak (fun _ _ _ => trivial)
theorem set_row {us : List Value} {n : Nat} (z u : Value) (h : us.length < n) : (us ++ List.replicate (n - us.length) z).set us.length u = (us ++ [u]) ++ List.replicate (n - (us.length + 1)) z := by
  rw [List.set_append_right _ _ (Nat.le_refl _), Nat.sub_self, show n - us.length = (n - (us.length + 1)) + 1 from by omega, List.replicate_succ, List.set_cons_zero]
  simp

def zsl (n : Nat) : List Value := List.replicate n (.slice none 0 0)
theorem map_take_succ (ts : List (List UInt8)) (i : Nat) (t : List UInt8) (h : ts[i]? = some t) : (ts.take (i + 1)).map tt = (ts.take i).map tt ++ [tt t] := by
  obtain ⟨hi, he⟩ := List.getElem?_eq_some_iff.1 h
  rw [List.take_succ_eq_append_getElem hi, he]
  simp
end Go.Proofs.YtmjpkdehkdpdpaaDoor
/- S8: contracts of the document's ReadFixed, Word. -/
namespace Go.Proofs.YtmjpkdehkdpdpaaDoor
open Go.RowKit Go.V

theorem nb4 (b : List UInt8) (i : Nat) : (be4 b i).toNat = nb b (4 * i) 4 := by
  have h := nb_lt b (4 * i) 4
  unfold be4
  rw [UInt32.toNat_ofNat']
  simp only [nb, Nat.add_zero] at h ⊢
  rw [Nat.mod_eq_of_lt (by omega)]
  omega
def klp : List (Nat × Operand) := (kl.zipIdx 0).map fun x => (x.2, .const (u32V x.1))
def klv : List (Nat × Value) := (kl.zipIdx 0).map fun x => (x.2, u32V x.1)
theorem klp_klv (a : Act) : (klp.map fun x => (x.1, a.eval x.2)) = klv := by simp [klp, klv, Function.comp_def, Act.eval]
theorem bldK : ∀ W : World, (Instr.build 147 klv.toArray).run Tryd.prog W = .ok (.agg (wvs kl).toArray) W := fun _ => by kernel_rfl
set_option maxRecDepth 100000 in
set_option maxHeartbeats 1000000 in
theorem word_any (i : Nat) (w : World) (hi : i < 64) :
    Calls Tryd.prog 99 #[.int .i64 (i : Int)] w fun e w' => e = .returned (.int .u32 ((kc i).toNat : Int)) ∧ Below w.heap.size w w' := by
  go_enter Tryd.func99, Tryd.ntmps99
  have hkc := hid (wvs_at kl i (kc i) (by
    unfold kc
    rw [List.getD_eq_getElem?_getD, List.getElem?_eq_getElem (by simpa [kl] using hi)]
    rfl))
  have hz := Blk.new' w 147 (zs32 64)
  have hB : Below w.heap.size w (w.alloc (.cells (zs32 64).toArray 147)) := (Below.refl _ _).alloc (Nat.le_refl _) _
  go_wp2_with (first | (refine wp_bld (o := ⟨some 4, .build 147 _, _, _, _, none⟩) 147 klp (by rfl) (by kernel_rfl) klv (klp_klv _) bldK ?_) | (refine wp_new 147 rfl rfl zero64 ?_) | (refine wp_st 147 (.tmp 3) (.tmp 4) rfl rfl rfl (f := 0) rfl (l := wvs kl) rfl hz (by simp [zs32, len_wvs, kl]) size64 (oneCell_wvs _) ?_; intro w7 hb7 hG7; rw [show (zs32 64).take 0 ++ wvs kl ++ (zs32 64).drop (0 + (wvs kl).length) = wvs kl from by simp [len_wvs, kl, zs32]] at hb7; have hc7 := hb7.cellAt i _ hkc.out; unfold u32V at hc7))
  go_ret
  exact ⟨rfl, hB.grown hG7 hB.size (by intro k hk; injection hk with hk; omega)⟩
end Go.Proofs.YtmjpkdehkdpdpaaDoor
/- S9: contract of the document's block. -/
namespace Go.V
open Go.RowKit
/-- 'v reads as these words' -/
def RdW (w : World) (F : Nat → Prop) (v : Value) (l : List UInt32) : Prop := ∃ A c, v = .slice A l.length c ∧ l.length ≤ c ∧ c ≤ maxLen ∧ ∀ j (u : Value), (wvs l)[j]? = some u → ∃ g off, A = some ⟨g, off, none⟩ ∧ F g ∧ w.cell? ⟨g, off + j, none⟩ = some u
theorem RdW.keep {w w' : World} {F : Nat → Prop} {v : Value} {l : List UInt32} (h : RdW w F v l) (hb : ∀ b, b < w.heap.size → F b → w'.heap[b]? = w.heap[b]?) : RdW w' F v l := by
  obtain ⟨A, c, hv, h1, h2, h3⟩ := h
  refine ⟨A, c, hv, h1, h2, fun j u hu => ?_⟩
  obtain ⟨g, off, hA, hg, hc⟩ := h3 j u hu
  exact ⟨g, off, hA, hg, (World.cell?_of_block (hb g (lt_of_cell hc) hg)).trans hc⟩
theorem RdW.below {w w' : World} {F : Nat → Prop} {v : Value} {l : List UInt32} (h : RdW w F v l) (hB : Below w.heap.size w w') : RdW w' F v l := h.keep fun b hb _ => hB.block b hb
theorem RdW.of_own {w : World} {base : Nat} {e : TypeId} {v : Value} {n : Nat} {l : List UInt32} (h : w.ownsRow base e 1 v n (wvs l)) : RdW w (fun b => base ≤ b) v l := by
  have hn : n = l.length := by have := h.1; simp [wvs] at this; omega
  subst hn
  rcases h.2 with ⟨rfl, h0⟩ | ⟨g, cap, cur, rfl, hg, hh, h1, h2, h3, h4⟩
  · have : l = [] := List.eq_nil_of_length_eq_zero h0
    subst this
    exact ⟨none, 0, rfl, Nat.le_refl _, by simp [maxLen], fun j u hu => by simp [wvs] at hu⟩
  · refine ⟨_, cap, rfl, h1, h2, fun j u hu => ⟨g, 0, rfl, hg, ?_⟩⟩
    have := h.cells (g := g) rfl j u hu
    rw [add_mk] at this
    exact this
end Go.V
namespace Go.Proofs.YtmjpkdehkdpdpaaDoor
open Go.RowKit Go.V
theorem slW : SlT Tryd.prog 155 125 (.int .u32 0) 4 := .of Tryd.underlying155 (by kernel_rfl) rfl
theorem rd_out (b : List UInt8) (i : Nat) : (nb b (4 * i) 4 : Int) % 4294967296 = ((be4 b i).toNat : Int) := by
  have h := u32lt (be4 b i)
  rw [nb4] at *
  omega

/-- what holds while the rounds go -/
def QS (b : List UInt8) (w w' : World) : Prop := Blk w' w.heap.size 125 (wvs (wl b 64)) ∧ Below w.heap.size w w'
def QSx (b : List UInt8) (k : Nat) (x : UInt32) (w w' : World) : Prop := w'.cell? ⟨w.heap.size, k, none⟩ = some (.int .u32 (x.toNat : Int)) ∧ QS b w w'
theorem QS.x {b : List UInt8} {k : Nat} {x : UInt32} {w w' : World} (h : QS b w w') (hx : (wl b 64)[k]? = some x) : QSx b k x w w' := ⟨h.1.cellAt k _ (wvs_at _ _ _ hx), h⟩
theorem QS.drewR {b : List UInt8} {k : Nat} {x : UInt32} {w w' : World} (h : QS b w w') (hx : Hid ((wl b 64)[k]? = some x)) : QSx b k x w w'.drew := QS.x ⟨h.1.drew, h.2.drew⟩ hx.out
theorem QS.belowR {b : List UInt8} {k : Nat} {x : UInt32} {w w' w'' : World} (hB : Below w'.heap.size w' w'') (h : QS b w w') (hx : Hid ((wl b 64)[k]? = some x)) : QSx b k x w w'' := QS.x ⟨h.1.below hB, h.2.trans (hB.mono h.2.size)⟩ hx.out
/-- the state's cells, as long as nothing old is turned -/
def Sx (gs os : Nat) (s : S8) (w w' : World) : Prop :=
  w'.cell? ⟨gs, os, none⟩ = some (.int .u32 (s.a.toNat : Int)) ∧ w'.cell? ⟨gs, os + 1, none⟩ = some (.int .u32 (s.b.toNat : Int)) ∧ w'.cell? ⟨gs, os + 2, none⟩ = some (.int .u32 (s.c.toNat : Int)) ∧ w'.cell? ⟨gs, os + 3, none⟩ = some (.int .u32 (s.d.toNat : Int)) ∧
  w'.cell? ⟨gs, os + 4, none⟩ = some (.int .u32 (s.e.toNat : Int)) ∧ w'.cell? ⟨gs, os + 5, none⟩ = some (.int .u32 (s.f.toNat : Int)) ∧ w'.cell? ⟨gs, os + 6, none⟩ = some (.int .u32 (s.g.toNat : Int)) ∧ w'.cell? ⟨gs, os + 7, none⟩ = some (.int .u32 (s.h.toNat : Int)) ∧ Below w.heap.size w w'
theorem Sx.mk' {gs os : Nat} {s : S8} {w w' : World} (hB : Below w.heap.size w w') (hg : gs < w.heap.size) (hc : Hid (∀ j (u : Value), (wvs (s8l s))[j]? = some u → w.cell? ⟨gs, os + j, none⟩ = some u)) : Sx gs os s w w' := by
  have cc : ∀ j (u : Value), (wvs (s8l s))[j]? = some u → w'.cell? ⟨gs, os + j, none⟩ = some u := fun j u hu => (World.cell?_of_block (hB.block gs hg)).trans (hc.out j u hu)
  exact ⟨cc 0 _ rfl, cc 1 _ rfl, cc 2 _ rfl, cc 3 _ rfl, cc 4 _ rfl, cc 5 _ rfl, cc 6 _ rfl, cc 7 _ rfl, hB⟩
theorem bsW (x0 x1 x2 x3 x4 x5 x6 x7 : Int) : ∀ W : World, (Instr.buildSlice 155 8 #[(0, .int .u32 x0), (1, .int .u32 x1), (2, .int .u32 x2), (3, .int .u32 x3), (4, .int .u32 x4), (5, .int .u32 x5), (6, .int .u32 x6), (7, .int .u32 x7)]).run Tryd.prog W = .ok (.slice (some ⟨W.heap.size, 0, none⟩) 8 8) (W.alloc (.cells #[.int .u32 x0, .int .u32 x1, .int .u32 x2, .int .u32 x3, .int .u32 x4, .int .u32 x5, .int .u32 x6, .int .u32 x7] 125)) := fun _ => by kernel_rfl
theorem srcW (w : World) (t : TypeId) (l : List Value) : Src (w.alloc (.cells l.toArray t)) (some ⟨w.heap.size, 0, none⟩) l.length l := by
  refine ⟨rfl, fun j u hu => ⟨_, _, rfl, ?_⟩⟩
  rw [Nat.zero_add]
  exact (Blk.new' w t l).cellAt j u hu
theorem readx4 (v : Value) (b : List UInt8) (i : Nat) (F : Nat → Prop) (w : World) (ht : Rd w F v (bys b)) (hk : 4 * i + 4 ≤ b.length) :
    Calls Tryd.prog 83 #[v, .int .i64 (4 * (i : Int)), .int .i64 4] w fun e w' => e = .returned (.agg #[.int .u64 (nb b (4 * i) 4 : Int), .slice none 0 0, .int .i64 4, .int .i64 0]) ∧ Below w.heap.size w w' := by
  have := readx_any v b (4 * i) 4 F w ht (by omega) hk
  rw [show ((4 * i : Nat) : Int) = 4 * (i : Int) from by omega, show ((4 : Nat) : Int) = 4 from rfl] at this
  exact this
set_option maxRecDepth 100000 in
set_option maxHeartbeats 1000000 in
theorem block_any (s : S8) (b : List UInt8) (sv bv : Value) (F G : Nat → Prop) (w : World) (hs : RdW w F sv (s8l s)) (hb : Rd w G bv (bys b)) (hl : b.length = 64) :
    Calls Tryd.prog 95 #[sv, bv] w fun e w' => ∃ v', e = .returned v' ∧ w'.ownsRow w.heap.size 125 1 v' 8 (wvs (s8l (blockF s b))) ∧ Below w.heap.size w w' := by
  obtain ⟨As, cs, rfl, hs1, hs2, hs3⟩ := id hs
  obtain ⟨gs, os, rfl, hgs, hsc0⟩ := hs3 0 _ rfl
  obtain ⟨A, c, rfl⟩ := hb.shape
  rw [hl] at hb ⊢
  have Hl := hid hl
  clear hl
  have hgsl := lt_of_cell hsc0
  have hcell : ∀ j (u : Value), (wvs (s8l s))[j]? = some u → w.cell? ⟨gs, os + j, none⟩ = some u := by
    intro j u hu
    obtain ⟨g', off', h', _, hc'⟩ := hs3 j u hu
    injection h' with h'
    injection h' with h1 h2
    subst h1 h2
    exact hc'
  have Hcell := hid hcell
  clear hcell hs3 hsc0
  go_enter Tryd.func95, Tryd.ntmps95
  go_wp2_with (refine wp_mk slW rfl (.const (.int .i64 64)) (.const (.int .i64 64)) rfl rfl 64 rfl rfl (by omega) (by simp [maxLen]) (zs32 64) rfl ?_)
  have hz := Blk.new' w 125 (zs32 64)
  have hB : Below w.heap.size w (w.alloc (.cells (zs32 64).toArray 125)) := (Below.refl _ _).alloc (Nat.le_refl _) _
  obtain ⟨w1, hw1⟩ : ∃ w1, w1 = (w.alloc (.cells (zs32 64).toArray 125)) := ⟨_, rfl⟩
  rw [← hw1] at hz hB ⊢
  clear hw1
  have hz0 : Blk w1 w.heap.size 125 (part64 b 0) := hz
  clear hz
  go_loopw [6] (fun iv wr => ∃ i : Nat, i ≤ 64 ∧ iv = .int .i64 i ∧ Blk wr w.heap.size 125 (part64 b i) ∧ Below w.heap.size w wr) (fun iv _ => 64 - (intOf iv).toNat)
  case atStart => exact ⟨0, by omega, rfl, hz0, hB⟩
  case round =>
    obtain ⟨i, hi, rfl, g3, gB⟩ := hrel
    by_cases hil : i < 64
    · by_cases h16 : i < 16
      · have Hs := hid (part64_set b i hil (be4 b i) (by rw [if_pos h16]))
        have Hrd := hid (rd_out b i)
        have hfl := fld54 (nb b (4 * i) 4 : Int) 0 4
        have hnl : nb b (4 * i) 4 < 18446744073709551616 := Nat.lt_of_lt_of_le (nb_lt b (4 * i) 4) (by decide)
        go_wp2_with (fail)
        ((with_reducible refine (readx4 _ b i _ _ (hb.below gB) (by rw [Hl.out]; omega)).mono ?_))
        rintro e w3 ⟨rfl, hB3⟩
        have k3 := g3.below hB3
        have kB := gB.trans (hB3.mono gB.size)
        go_wp2_with (refine wp_st1 125 (.tmp 38) (.tmp 37) rfl rfl rfl (f := i) rfl (v := u32V (be4 b i)) (congrArg (Value.int .u32) Hrd.out) k3 (by rw [part64_len _ _ (by omega)]; omega) size32 rfl rfl ?_; intro w7 hb7 hG7)
        rw [Hs.out] at hb7
        have hB7 := kB.grown hG7 kB.size (by intro k hk; injection hk with hk; omega)
        go_wp2
        go_roundw
        case rel => exact ⟨i + 1, by omega, by go_num, hb7, hB7⟩
        case measure => simp [intOf]; omega
      · obtain ⟨A, hA⟩ : ∃ A, A = (wl b i).getD (i - 15) 0 := ⟨_, rfl⟩
        obtain ⟨B, hB'⟩ : ∃ B, B = (wl b i).getD (i - 2) 0 := ⟨_, rfl⟩
        obtain ⟨C, hC⟩ : ∃ C, C = (wl b i).getD (i - 7) 0 := ⟨_, rfl⟩
        obtain ⟨D, hD⟩ : ∃ D, D = (wl b i).getD (i - 16) 0 := ⟨_, rfl⟩
        have cA := g3.cellAt _ _ (part64_at b i (i - 15) (by omega))
        have cB := g3.cellAt _ _ (part64_at b i (i - 2) (by omega))
        have cC := g3.cellAt _ _ (part64_at b i (i - 7) (by omega))
        have cD := g3.cellAt _ _ (part64_at b i (i - 16) (by omega))
        unfold u32V at cA cB cC cD
        rw [← hA] at cA
        rw [← hB'] at cB
        rw [← hC] at cC
        rw [← hD] at cD
        have Hs := hid (part64_set b i hil (sg1 B + C + sg0 A + D) (by rw [if_neg (by omega), hA, hB', hC, hD]; rfl))
        clear hA hB' hC hD
        have eA : ((i : Int) - 15).toNat = i - 15 := by omega
        have eB : ((i : Int) - 2).toNat = i - 2 := by omega
        go_wp2_with (go_at_call 98; refine (turn_l _ _ _ (by omega) (by omega)).mono ?_; rintro e' w' ⟨rfl, rfl⟩; simp only [Int.reduceToNat])
        clear cA cB eA eB
        have e0 : bits BinOp.xor IntKind.u32 (bits BinOp.xor IntKind.u32 ((rotr A 7).toNat : Int) ((rotr A 18).toNat : Int)) ((A.toNat : Int) / 8) = ((sg0 A).toNat : Int) := by rw [xor_out, shr3, xor_out]; rfl
        have e1 : bits BinOp.xor IntKind.u32 (bits BinOp.xor IntKind.u32 ((rotr B 17).toNat : Int) ((rotr B 19).toNat : Int)) ((B.toNat : Int) / 1024) = ((sg1 B).toNat : Int) := by rw [xor_out, shr10, xor_out]; rfl
        rw [e0, e1]
        clear e0 e1
        have eA : ((i : Int) - 7).toNat = i - 7 := by omega
        have eB : ((i : Int) - 16).toNat = i - 16 := by omega
        have wA : IntKind.i64.wrap ((i : Int) - 7) = (i : Int) - 7 := IntWalk.i64_in _ (by omega)
        have wB : IntKind.i64.wrap ((i : Int) - 16) = (i : Int) - 16 := IntWalk.i64_in _ (by omega)
        have nA : (0 : Int) ≤ (i : Int) - 7 := by omega
        have nB : (0 : Int) ≤ (i : Int) - 16 := by omega
        have bA : (i : Int) - 7 < 64 := by omega
        have bB : (i : Int) - 16 < 64 := by omega
        have mA : (7 : Int) ≤ (i : Int) := by omega
        have mB : (16 : Int) ≤ (i : Int) := by omega
        refine wp_region_tail 17 (by kernel_rfl) (by kernel_rfl) ?_
        simp only [List.take_succ_cons, List.take_zero, List.drop_succ_cons, List.drop_zero]
        repeat still_step
        refine wpStill_nil ?_
        clear wA wB nA nB bA bB eA eB cC cD mA mB
        simp only [wadd_out]
        have k3d := g3.drew
        go_wp2_with (refine wp_st1 125 (.tmp 82) (.tmp 81) rfl rfl rfl (f := i) rfl (v := u32V (sg1 B + C + sg0 A + D)) rfl k3d (by rw [part64_len _ _ (by omega)]; omega) size32 rfl rfl ?_; intro w3 k3' hG3)
        rw [Hs.out] at k3'
        have kB' : Below w.heap.size w w3 := gB.drew.grown hG3 gB.size (by intro k hk; injection hk with hk; omega)
        go_wp2
        go_roundw
        case rel => exact ⟨i + 1, by omega, by go_num, k3', kB'⟩
        case measure => simp [intOf]; omega
    · have h64 : i = 64 := by omega
      subst h64
      rw [part64_end] at g3
      clear hil hi hB hz0
      rw [show ((64 : Nat) : Int) = 64 from rfl]
      have hq : QS b w wr := ⟨g3, gB⟩
      have cc : ∀ j (u : Value), (wvs (s8l s))[j]? = some u → wr.cell? ⟨gs, os + j, none⟩ = some u := fun j u hu => (World.cell?_of_block (gB.block gs hgsl)).trans (Hcell.out j u hu)
      have c0 := cc 0 _ rfl
      have c1 := cc 1 _ rfl
      have c2 := cc 2 _ rfl
      have c3 := cc 3 _ rfl
      have c4 := cc 4 _ rfl
      have c5 := cc 5 _ rfl
      have c6 := cc 6 _ rfl
      have c7 := cc 7 _ rfl
      unfold u32V at c0 c1 c2 c3 c4 c5 c6 c7
      rw [Nat.add_zero] at c0
      rw [show (s8l s).length = 8 from rfl]
      clear cc
      go_wp2
      clear c0 c1 c2 c3 c4 c5 c6 c7
      go_loopw [11, 12, 13, 14, 15, 16, 17, 18, 19] (fun va vb vc vd ve vf vg vh kv wr => ∃ (k : Nat) (a b' c d e f g h : UInt32), k ≤ 64 ∧ kv = .int .i64 k ∧ va = .int .u32 (a.toNat : Int) ∧ vb = .int .u32 (b'.toNat : Int) ∧ vc = .int .u32 (c.toNat : Int) ∧ vd = .int .u32 (d.toNat : Int) ∧ ve = .int .u32 (e.toNat : Int) ∧ vf = .int .u32 (f.toNat : Int) ∧ vg = .int .u32 (g.toNat : Int) ∧ vh = .int .u32 (h.toNat : Int) ∧ rnds (wl b 64) s k = ⟨a, b', c, d, e, f, g, h⟩ ∧ QS b w wr) (fun _ _ _ _ _ _ _ _ kv _ => 64 - (intOf kv).toNat)
      case atStart => exact ⟨0, s.a, s.b, s.c, s.d, s.e, s.f, s.g, s.h, by omega, rfl, rfl, rfl, rfl, rfl, rfl, rfl, rfl, rfl, rfl, hq⟩
      case round =>
        clear hq g3 gB
        obtain ⟨k, a, b', c, d, e, f, g, h, hk, rfl, rfl, rfl, rfl, rfl, rfl, rfl, rfl, rfl, hst, hq⟩ := hrel
        have Hst := hid hst
        clear hst
        by_cases hlt : k < 64
        · obtain ⟨x, hx⟩ : ∃ x, (wl b 64)[k]? = some x := ⟨_, List.getElem?_eq_getElem (by rw [wl_len]; exact hlt)⟩
          have Hx := hid hx
          clear hx
          have hk0 : (0 : Int) ≤ (k : Int) := by omega
          have hk1 : (k : Int) < 64 := by omega
          go_wp2
          go_region_held3 (fun w' => w'.cell? ⟨w.heap.size, k, none⟩ = some (.int .u32 (x.toNat : Int)) ∧ QS b w w')
            (first | (go_split_ands; exact QS.belowR (by assumption) (by assumption) Hx) | (go_split_ands; exact QS.drewR (by assumption) Hx) | (go_split_ands; exact QS.x (by assumption) Hx.out))
            (first | (go_at_call 98; refine (turn_l _ _ _ (by omega) (by omega)).mono ?_; rintro e' w' ⟨rfl, rfl⟩; simp only [Int.reduceToNat]) | (go_at_call 99; refine (word_any k _ hlt).mono ?_; rintro e' w' ⟨rfl, hBw⟩; dsimp only))
          go_split_ands
          simp only [ones_u32, xor_out, and_out, not_out, wadd_out]
          rw [show (h + (rotr e 6 ^^^ rotr e 11 ^^^ rotr e 25) + ((e &&& f) ^^^ (~~~e &&& g)) + kc k + x) = tF ⟨a, b', c, d, e, f, g, h⟩ (kc k) x from rfl]
          obtain ⟨T, hT⟩ : ∃ T, T = tF ⟨a, b', c, d, e, f, g, h⟩ (kc k) x := ⟨_, rfl⟩
          rw [← hT]
          have HT := hid hT
          clear hT
          go_wp2_with (go_at_call 98; refine (turn_l _ _ _ (by omega) (by omega)).mono ?_; rintro e' w' ⟨rfl, rfl⟩; simp only [Int.reduceToNat])
          simp only [xor_out, and_out]
          rw [u_out a b' c d e f g h]
          obtain ⟨U, hU⟩ : ∃ U, U = uF ⟨a, b', c, d, e, f, g, h⟩ := ⟨_, rfl⟩
          rw [← hU]
          have HU := hid hU
          clear hU
          go_roundw
          case rel => exact ⟨k + 1, T + U, a, b', c, d + T, e, f, g, by omega, by go_num, congrArg _ (add_out T U), rfl, rfl, rfl, congrArg _ (add_out d T), rfl, rfl, rfl, rnds_s Hst.out Hx.out HT.out HU.out, by assumption⟩
          case measure => simp [intOf]; omega
        · have hfin : Hid (blockF s b = addS s ⟨a, b', c, d, e, f, g, h⟩) := by
            show _ = _
            have : k = 64 := by omega
            unfold blockF
            rw [← Hst.out, this]
          have hBr := hq.2
          have hsx := Sx.mk' (gs := gs) (os := os) (s := s) hBr hgsl Hcell
          obtain ⟨c0, c1, c2, c3, c4, c5, c6, c7, _⟩ := hsx
          clear hq
          go_wp2
          have hbw := bsW
          go_region_held3 (fun w' => w'.cell? ⟨gs, os, none⟩ = some (.int .u32 (s.a.toNat : Int)) ∧ w'.cell? ⟨gs, os + 1, none⟩ = some (.int .u32 (s.b.toNat : Int)) ∧ w'.cell? ⟨gs, os + 2, none⟩ = some (.int .u32 (s.c.toNat : Int)) ∧ w'.cell? ⟨gs, os + 3, none⟩ = some (.int .u32 (s.d.toNat : Int)) ∧
              w'.cell? ⟨gs, os + 4, none⟩ = some (.int .u32 (s.e.toNat : Int)) ∧ w'.cell? ⟨gs, os + 5, none⟩ = some (.int .u32 (s.f.toNat : Int)) ∧ w'.cell? ⟨gs, os + 6, none⟩ = some (.int .u32 (s.g.toNat : Int)) ∧ w'.cell? ⟨gs, os + 7, none⟩ = some (.int .u32 (s.h.toNat : Int)) ∧ Below w.heap.size w w')
            (first | (go_split_ands; exact Sx.mk' (by assumption) hgsl Hcell) | (go_split_ands; exact Sx.mk' (Below.drew (by assumption)) hgsl Hcell) | (go_split_ands; exact Sx.mk' (Below.alloc (by assumption) (Below.size (by assumption)) _) hgsl Hcell))
            ((go_split_ands; refine step_app (.tmp 170) (.tmp 211) slW (by rfl) (by rfl) (base := w.heap.size) (by rfl) (World.ownsRow_nil _ _ _ _) (by rfl) (srcW _ _ _) (by simp [Value.oneCell']) (by simp [maxLen]) (by simp) (Below.size (by assumption)) ?_; intro v9 w9 hO9 hG9; have hB9 := Below.grown (by assumption) hG9 (Below.size (by assumption)) (by intro k hk; cases hk)))
          simp only [wadd_out] at hO9
          have hO : w9.ownsRow w.heap.size 125 1 v9 8 (wvs (s8l (blockF s b))) := by
            rw [hfin.out]
            exact hO9
          go_wp2
          go_ret
          exact ⟨v9, rfl, hO, hB9⟩
end Go.Proofs.YtmjpkdehkdpdpaaDoor
/- SA: contracts of the document's Sum, Bytes, Pair, All, Chain. -/
namespace Go.Proofs.YtmjpkdehkdpdpaaDoor
open Go.RowKit Go.V
theorem own_keepB {w w' : World} {base : Nat} {e : TypeId} {sz : Nat} {v : Value} {n : Nat} {xs : List Value} (h : w.ownsRow base e sz v n xs) (hB : Below w.heap.size w w') : w'.ownsRow base e sz v n xs := by
  have hg : w.grownBy w' none := ⟨hB.os, hB.tape, hB.output, hB.size, fun k hk _ => hB.block k hk⟩
  refine h.kept hg ?_
  cases hv : v.ownBlock with
  | none => exact .inl rfl
  | some k => exact .inr (by simp)
theorem own_base {w : World} {base b2 : Nat} {e : TypeId} {sz : Nat} {v : Value} {n : Nat} {xs : List Value} (h : w.ownsRow base e sz v n xs) (hb : b2 ≤ base) : w.ownsRow b2 e sz v n xs := by
  refine ⟨h.1, ?_⟩
  rcases h.2 with hn | ⟨g, cap, cur, hv, hbb, rest⟩
  · exact .inl hn
  · exact .inr ⟨g, cap, cur, hv, Nat.le_trans hb hbb, rest⟩
theorem fixR8 (x : Nat) : fixR 8 x = fx 8 x := by unfold fixR; rw [if_pos (by unfold okN; omega)]; rfl
theorem fixR4 (x : Nat) : fixR 4 x = fx 4 x := by unfold fixR; rw [if_pos (by unfold okN; omega)]; rfl
theorem pad_len (p : List UInt8) : (pad p).length = p.length + 1 + padN p.length + 8 := by simp [pad, len_fx]; omega
theorem pad_mod (p : List UInt8) : (pad p).length % 64 = 0 := by rw [pad_len]; unfold padN; omega
theorem padN_at (n k : Nat) (hk : k ≤ padN n) : (n + 1 + k) % 64 = 56 ↔ k = padN n := by unfold padN at *; omega
theorem app_zeros (p : List UInt8) (k : Nat) : bvs (p ++ (128 :: List.replicate k 0)) ++ [.int .u8 0] = bvs (p ++ (128 :: List.replicate (k + 1) 0)) := by
  simp [bvs, List.replicate_succ', byteV]
theorem refx8 (l : Nat) (w : World) (h : l ≤ 17592186044416) :
    Calls Tryd.prog 94 #[.int .u64 (8 * (l : Int)), .int .i64 8] w fun e w' => ∃ v', e = .returned v' ∧ w'.ownsRow w.heap.size 5 1 v' 8 (bvs (fx 8 (8 * l))) ∧ Below w.heap.size w w' := by
  have := refx_any (8 * l) 8 w (by omega)
  rw [fixR8, show ((8 * l : Nat) : Int) = 8 * (l : Int) from by omega] at this
  refine this.mono ?_
  rintro e w' ⟨v', rfl, h1, h2⟩
  rw [len_fx] at h1
  exact ⟨v', rfl, h1, h2⟩
theorem refx4 (x : UInt32) (w : World) :
    Calls Tryd.prog 94 #[.int .u64 (x.toNat : Int), .int .i64 4] w fun e w' => ∃ v', e = .returned v' ∧ w'.ownsRow w.heap.size 5 1 v' 4 (bvs (fx 4 x.toNat)) ∧ Below w.heap.size w w' := by
  have hx := u32lt x
  have := refx_any x.toNat 4 w (by omega)
  rw [fixR4] at this
  refine this.mono ?_
  rintro e w' ⟨v', rfl, h1, h2⟩
  rw [len_fx] at h1
  exact ⟨v', rfl, h1, h2⟩
theorem one_zs8 : ∀ v ∈ zs8 32, v.oneCell' = true := by
  intro v hv
  have := List.eq_of_mem_replicate hv
  rw [this]
  rfl
theorem bld25 : ∀ W : World, (Instr.build 41 ([] : List (Nat × Value)).toArray).run Tryd.prog W = .ok (.agg (zs8 32).toArray) W := fun _ => by kernel_rfl
set_option maxRecDepth 100000 in
set_option maxHeartbeats 1000000 in
theorem rsum_any (v : Value) (p : List UInt8) (F : Nat → Prop) (w : World) (ht : Rd w F v (bys p)) (hn : p.length ≤ 17592186044416) :
    Calls Tryd.prog 87 #[v] w fun e w' => e = .returned (.agg (bvs (shaF p)).toArray) ∧ Below w.heap.size w w' := by
  obtain ⟨A, c, rfl⟩ := ht.shape
  go_enter Tryd.func87, Tryd.ntmps87
  have hz := Blk.new' w 41 (zs8 32)
  have hB0 : Below w.heap.size w (w.alloc (.cells (zs8 32).toArray 41)) := (Below.refl _ _).alloc (Nat.le_refl _) _
  have h0 : (w.alloc (.cells (zs8 32).toArray 41)).ownsRow (w.heap.size + 1) 5 1 (.slice none 0 0) 0 [] := World.ownsRow_nil _ _ _ _
  go_wp2_with (first | (refine wp_new 41 rfl rfl zero25 ?_) | (refine wp_app (.tmp 8) (.tmp 9) slB rfl rfl rfl h0 rfl (ht.below hB0).src (oneCell_bvs p) (by simp only [maxLen]; omega) (by omega) (by simp) ?_; intro v1 w1 ho1 hG1 _; refine wp_stop ?_))
  have hB1 := hB0.grown hG1 (by simp) (by intro k hk; cases hk)
  have hz1 := hz.keep (hG1.block _ (by simp) (by intro e; cases e))
  rw [List.nil_append, Nat.zero_add] at ho1
  have hs1 : w.heap.size + 1 ≤ w1.heap.size := by have := hG1.size; simpa using this
  refine wp_go ?_
  go_wp2_with (refine wp_push (.tmp 11) (.const (.int .u8 128)) 12 slB rfl rfl rfl rfl rfl (u := .int .u8 128) rfl rfl rfl (by simp) rfl ho1 (by simp only [maxLen]; omega) (by omega) hs1 ?_; intro v2 w2 ho2 hG2 _; refine wp_stop ?_)
  have hB2 := hB1.grown hG2 hB1.size (fun k hk => by have := (ho1.lt k hk).1; omega)
  have hz2 := hz1.keep (hG2.block _ hz1.lt (fun e => by have := (ho1.lt _ e.symm).1; omega))
  have ho2' : w2.ownsRow (w.heap.size + 1) 5 1 v2 (p.length + 1 + 0) (bvs (p ++ (128 :: List.replicate 0 0))) := by
    have : bvs p ++ [.int .u8 128] = bvs (p ++ (128 :: List.replicate 0 0)) := by simp [bvs, byteV]
    rw [← this]
    exact ho2
  clear ho2 hB1 hz1 ho1 hG1 hG2 hs1 h0
  refine wp_go ?_
  go_wp2
  go_loopw [3] (fun tv wr => ∃ k : Nat, k ≤ padN p.length ∧ wr.ownsRow (w.heap.size + 1) 5 1 tv (p.length + 1 + k) (bvs (p ++ (128 :: List.replicate k 0))) ∧ Blk wr w.heap.size 41 (zs8 32) ∧ Below w.heap.size w wr) (fun tv _ => p.length + 65 - lenV tv)
  case atStart => exact ⟨0, by omega, ho2', hz2, hB2⟩
  case round =>
    obtain ⟨k, hk, ho, hz, hB⟩ := hrel
    have hpn : padN p.length < 64 := by unfold padN; omega
    have hsz := hz.lt
    obtain ⟨L, hL⟩ : ∃ L, L = p.length + 1 + k := ⟨_, rfl⟩
    rw [← hL] at ho
    have hLm := padN_at p.length k hk
    rw [← hL] at hLm
    obtain ⟨At, ct, rfl⟩ := own_shape ho
    have hLb : L ≤ 17592186044500 := by omega
    have HL := hid hL
    clear hL
    by_cases hkk : k = padN p.length
    · have ht1 : (((L : Int) % 64) != 56) = false := by rw [bne_eq_false_iff_eq]; have := hLm.2 hkk; omega
      have HK := hid hkk
      clear hkk hLm
      go_wp2_with (fail)
      refine (refx8 p.length wr hn).mono ?_
      rintro e w3 ⟨v3, rfl, ho3, hB3⟩
      have hB3' := hB.trans (hB3.mono hB.size)
      have hz3 := hz.below hB3
      have ho' : w3.ownsRow (w.heap.size + 1) 5 1 (.slice At L ct) L (bvs (p ++ (128 :: List.replicate k 0))) := own_keepB ho hB3
      obtain ⟨A3, c3, rfl⟩ := own_shape ho3
      have hs3 : Src w3 A3 8 (bvs (fx 8 (8 * p.length))) := by
        have := (Rd.of_own ho3).src
        rw [len_fx] at this
        exact this
      go_wp2_with (refine wp_app (.tmp 21) (.tmp 26) slB rfl rfl rfl ho' rfl hs3 (oneCell_bvs _) (by simp only [maxLen]; omega) (by omega) (by have := hB3'.size; have := hz3.lt; omega) ?_; intro v4 w4 ho4 hG4 _; refine wp_stop ?_)
      have hB4 := hB3'.grown hG4 hB3'.size (fun k hk => by have := (ho'.lt k hk).1; omega)
      have hz4 := hz3.keep (hG4.block _ hz3.lt (fun e => by have := (ho'.lt _ e.symm).1; omega))
      have hpd : bvs (p ++ (128 :: List.replicate k 0)) ++ bvs (fx 8 (8 * p.length)) = bvs (pad p) := by rw [HK.out]; simp [pad, bvs]
      rw [hpd] at ho4
      have hpl : Hid (L + 8 = (pad p).length) := by show _ = _; rw [pad_len, HL.out, HK.out]
      have hr4 := Rd.of_own ho4
      obtain ⟨A4, c4, rfl⟩ := own_shape ho4
      obtain ⟨PL, hPL⟩ : ∃ PL, L + 8 = PL := ⟨_, rfl⟩
      rw [hPL] at ho4 hr4 hpl ⊢
      have hPLb : PL ≤ 17592186044600 := by omega
      clear hPL hpd
      refine wp_go ?_
      have hbw := bsW 1779033703 3144134277 1013904242 2773480762 1359893119 2600822924 528734635 1541459225
      have h5 : (w4.alloc (.cells (wvs (s8l iv)).toArray 125)).ownsRow (w.heap.size + 1) 125 1 (.slice none 0 0) 0 [] := World.ownsRow_nil _ _ _ _
      have hs5 := srcW w4 125 (wvs (s8l iv))
      go_wp2_with (refine wp_app (.tmp 28) (.tmp 29) slW rfl rfl rfl h5 rfl hs5 (oneCell_wvs _) (by simp [maxLen]) (by simp) (by have := hB4.size; have := hz4.lt; simp; omega) ?_; intro v6 w6 ho6 hG6 _; refine wp_stop ?_)
      have hB5 : Below w.heap.size w (w4.alloc (.cells (wvs (s8l iv)).toArray 125)) := hB4.alloc hB4.size _
      have hB6 := hB5.grown hG6 hB5.size (by intro k hk; cases hk)
      have hz6 := (hz4.alloc (.cells (wvs (s8l iv)).toArray 125)).keep (hG6.block _ (by have := hz4.lt; simp; omega) (by intro e; cases e))
      have hr6 : Rd w6 (fun b => w.heap.size + 1 ≤ b) (.slice A4 PL c4) (bys (pad p)) := (hr4.below ((Below.refl _ _).alloc (Nat.le_refl _) (.cells (wvs (s8l iv)).toArray 125))).keep (fun b hb hf => ⟨hf, hG6.block b hb (by intro e; cases e)⟩)
      have hw6 : RdW w6 (fun b => w.heap.size + 1 ≤ b) v6 (s8l iv) := RdW.of_own ho6
      clear hB5 hG6 ho6 hs5 h5 hbw hB4 hz4 hr4 ho4 hG4 hB3' hz3 ho' hs3 ho3 hB3 hz hB ho
      refine wp_go ?_
      go_wp2
      go_loopw [4, 5] (fun sv av wr => ∃ k : Nat, 64 * k ≤ PL ∧ av = .int .i64 (64 * (k : Int)) ∧ RdW wr (fun b => w.heap.size + 1 ≤ b) sv (s8l (fbk (pad p) k)) ∧ Rd wr (fun b => w.heap.size + 1 ≤ b) (.slice A4 PL c4) (bys (pad p)) ∧ Blk wr w.heap.size 41 (zs8 32) ∧ Below w.heap.size w wr) (fun _ av _ => PL - (intOf av).toNat)
      case atStart => exact ⟨0, by omega, rfl, hw6, hr6, hz6, hB6⟩
      case round =>
        clear hB6 hz6 hr6 hw6
        obtain ⟨k, hk, rfl, hw, hr, hz, hB⟩ := hrel
        have hmod : PL % 64 = 0 := by rw [hpl.out]; exact pad_mod p
        by_cases hlt : 64 * k < PL
        · obtain ⟨A', m', c', hsl, hcut⟩ := hr.cut slB (64 * (k : Int)) (64 * (k : Int) + 64) (by omega) (by omega) (by rw [← hpl.out]; omega)
          rw [show (64 * (k : Int)).toNat = 64 * k from by omega, show (64 * (k : Int) + 64).toNat - 64 * k = 64 from by omega] at hcut
          have hcl : (((pad p).drop (64 * k)).take 64).length = 64 := by rw [List.length_take, List.length_drop, ← hpl.out]; omega
          have Hcl := hid hcl
          have hk1 : 64 * (k + 1) ≤ PL := by omega
          clear hcl hmod
          go_wp2_with (fail)
          refine (block_any (fbk (pad p) k) _ _ _ _ _ _ hw hcut Hcl.out).mono ?_
          rintro e w3 ⟨v3, rfl, ho3, hB3⟩
          have hw3 : RdW w3 (fun b => w.heap.size + 1 ≤ b) v3 (s8l (fbk (pad p) (k + 1))) := by
            obtain ⟨A9, c9, hv9, h1, h2, h3⟩ := RdW.of_own ho3
            refine ⟨A9, c9, hv9, h1, h2, fun j u hu => ?_⟩
            obtain ⟨g, off, hA, hg, hc⟩ := h3 j u hu
            exact ⟨g, off, hA, by have h4 : wr.heap.size ≤ g := hg; have := hz.lt; show w.heap.size + 1 ≤ g; omega, hc⟩
          have hB3' := hB.trans (hB3.mono hB.size)
          go_wp2
          go_roundw
          case rel => exact ⟨k + 1, by omega, by go_num, hw3, hr.below hB3, hz.below hB3, hB3'⟩
          case measure => simp [intOf]; omega
        · have hkk : Hid (s8b (fbk (pad p) k) = shaF p) := by
            show _ = _
            unfold shaF
            rw [show (pad p).length / 64 = k from by rw [← hpl.out]; omega]
          clear hmod
          obtain ⟨As, cs, rfl, _, _, hsc⟩ := hw
          obtain ⟨gs, os, rfl, hgs, hsc0⟩ := hsc 0 _ rfl
          have hcell : ∀ j (u : Value), (wvs (s8l (fbk (pad p) k)))[j]? = some u → wr.cell? ⟨gs, os + j, none⟩ = some u := by
            intro j u hu
            obtain ⟨g', off', h', _, hc'⟩ := hsc j u hu
            injection h' with h'
            injection h' with h1 h2
            subst h1 h2
            exact hc'
          have hgsl := lt_of_cell hsc0
          have Hcell := hid hcell
          obtain ⟨st, hst⟩ : ∃ st, st = fbk (pad p) k := ⟨_, rfl⟩
          rw [← hst] at Hcell hkk ⊢
          clear hcell hsc hsc0 hst
          rw [show (s8l st).length = 8 from rfl]
          have hal : Below w.heap.size w (wr.alloc (.cells (zs8 32).toArray 41)) := hB.alloc hB.size _
          have hzn := Blk.new' wr 41 (zs8 32)
          go_wp2_with (refine wp_bld (o := ⟨some 44, .build 41 _, _, _, _, none⟩) 41 [] rfl rfl [] rfl bld25 ?_; refine wp_stop ?_)
          refine wp_new 41 rfl rfl zero25 ?_
          refine wp_st 41 (.tmp 6) (.tmp 44) (by rfl) (by rfl) (by rfl) (f := 0) (by rfl) (l := zs8 32) (by rfl) hzn (by simp [zs8]) size25 one_zs8 ?_
          intro w8 hb8 hG8
          have hB8 := hal.grown hG8 (by simp; have := hB.size; omega) (by intro k hk; injection hk with hk; have := hB.size; omega)
          have hz8 := (hz.alloc (.cells (zs8 32).toArray 41)).keep (hG8.block _ (by have := hz.lt; simp; omega) (by intro e; injection e with e; have := hz.lt; omega))
          have hb8' : Blk w8 wr.heap.size 41 (part32 (s8b st) 0) := by
            rw [part32_0]
            have e9 : (zs8 32).take 0 ++ zs8 32 ++ (zs8 32).drop (0 + (zs8 32).length) = zs8 32 := by simp [zs8]
            rw [e9] at hb8
            exact hb8
          have Hc8 : Hid (∀ j (u : Value), (wvs (s8l st))[j]? = some u → w8.cell? ⟨gs, os + j, none⟩ = some u) := fun j u hu => (World.cell?_of_block ((hG8.block gs (by simp; omega) (by intro e; injection e with e; omega)).trans (Below.heap_alloc _ _ _ hgsl))).trans (Hcell.out j u hu)
          have hwz := hB.size
          have hne8 := hz.lt
          obtain ⟨bg, hbg⟩ : ∃ bg, bg = wr.heap.size := ⟨_, rfl⟩
          rw [← hbg] at hb8' ⊢
          have hgb : gs < bg := by omega
          have hwb : w.heap.size < bg := by omega
          have hb8l := hb8'.lt
          clear hbg hG8 hzn hal hb8 hz hr hB Hcell hgsl
          go_wp2
          go_loopw [7] (fun iv wq => ∃ i : Nat, i ≤ 32 ∧ iv = .int .i64 i ∧ Blk wq bg 41 (part32 (s8b st) i) ∧ Blk wq w.heap.size 41 (zs8 32) ∧ Below w.heap.size w wq ∧ Hid (∀ j (u : Value), (wvs (s8l st))[j]? = some u → wq.cell? ⟨gs, os + j, none⟩ = some u)) (fun iv _ => 32 - (intOf iv).toNat)
          case atStart => exact ⟨0, by omega, rfl, hb8', hz8, hB8, Hc8⟩
          case round =>
            clear Hc8 hB8 hz8 hb8'
            obtain ⟨i, hi, rfl, hb, hz, hB, Hc⟩ := hrel
            by_cases hil : i < 32
            · obtain ⟨x, hx⟩ : ∃ x, (s8l st)[i / 4]? = some x := ⟨_, List.getElem?_eq_getElem (by simp [s8l]; omega)⟩
              have hcx := Hc.out (i / 4) _ (wvs_at _ _ _ hx)
              unfold u32V at hcx
              have hby := hid (s8b_at st (i / 4) (i % 4) (by omega) (by omega) x hx)
              have hxl := u32lt x
              clear hx
              have e1 : ((i : Int) / 4).toNat = i / 4 := by omega
              have e2 : ((i : Int) % 4).toNat = i % 4 := by omega
              go_wp2_with (fail)
              refine (refx4 x _).mono ?_
              rintro e w3 ⟨v3, rfl, ho3, hB3⟩
              have k0 := hb.below hB3
              have kz := hz.below hB3
              have kB := hB.trans (hB3.mono hB.size)
              have kc : Hid (∀ j (u : Value), (wvs (s8l st))[j]? = some u → w3.cell? ⟨gs, os + j, none⟩ = some u) := fun j u hu => (World.cell?_of_block (hB3.block gs (by have := hb.lt; omega))).trans (Hc.out j u hu)
              have hr3 := Rd.of_own ho3
              obtain ⟨A9, c9, rfl⟩ := own_shape ho3
              obtain ⟨g9, off9, rfl, _, hc9⟩ := hr3.byteAt (i % 4) (by rw [len_fx]; omega)
              have hbv : (fx 4 x.toNat)[i % 4]'(by rw [len_fx]; omega) = UInt8.ofNat (x.toNat / 256 ^ (3 - i % 4) % 256) := by simp [fx]
              rw [hbv] at hc9
              obtain ⟨y, hy⟩ : ∃ y, y = UInt8.ofNat (x.toNat / 256 ^ (3 - i % 4) % 256) := ⟨_, rfl⟩
              rw [← hy] at hc9
              have hset := hid (part32_set (s8b st) i (len_s8b st) hil y (by rw [hy, ← hby.out]; congr 1; omega))
              clear hy hbv hcx
              go_wp2_with (refine wp_st1 5 (.tmp 61) (.tmp 60) rfl rfl rfl (f := i) rfl (v := byteV y) rfl k0 (by rw [part32_len _ _ (len_s8b st) (by omega)]; omega) size8 rfl rfl ?_; intro w7 hb7 hG7; refine wp_stop ?_)
              rw [hset.out] at hb7
              have kz7 := kz.keep (hG7.block _ kz.lt (by intro e; injection e with e; omega))
              have kB7 := kB.grown hG7 kB.size (by intro k hk; injection hk with hk; omega)
              have kc7 : Hid (∀ j (u : Value), (wvs (s8l st))[j]? = some u → w7.cell? ⟨gs, os + j, none⟩ = some u) := fun j u hu => (World.cell?_of_block (hG7.block gs (by have := k0.lt; omega) (by intro e; injection e with e; omega))).trans (kc.out j u hu)
              refine wp_go ?_
              go_wp2
              go_roundw
              case rel => exact ⟨i + 1, by omega, by go_num, hb7, kz7, kB7, kc7⟩
              case measure => simp [intOf]; omega
            · have h32 : i = 32 := by omega
              subst h32
              rw [part32_end _ (len_s8b st)] at hb
              go_wp2_with (first | (refine wp_ld 41 (.tmp 6) rfl rfl rfl hb.whole und25 rfl (by rw [len_bvs, len_s8b]; exact size25) ?_) | (refine wp_st 41 (.tmp 2) (.tmp 62) rfl rfl rfl (f := 0) rfl (l := bvs (s8b st)) rfl hz (by simp [zs8, len_bvs, len_s8b]) (by rw [len_bvs, len_s8b]; exact size25) (oneCell_bvs _) ?_; intro w7 hb7 hG7))
              rw [set25 _ (len_s8b _)] at hb7
              refine ret_cell rfl rfl hb7.whole und25 rfl (by rw [len_bvs, len_s8b]; exact size25) rfl ?_
              exact ⟨by rw [← hkk.out], hB.grown hG7 hB.size (by intro k hk; injection hk with hk; omega)⟩
    · have ht1 : (((L : Int) % 64) != 56) = true := by rw [bne_iff_ne]; intro e; exact hkk (hLm.1 (by omega))
      have hk' : k + 1 ≤ padN p.length := by omega
      clear hkk hLm
      go_wp2_with (refine wp_push (.tmp 18) (.const (.int .u8 0)) 19 slB rfl rfl rfl rfl rfl (u := .int .u8 0) rfl rfl rfl (by simp) rfl ho (by simp only [maxLen]; omega) (by omega) (by omega) ?_; intro v3 w3 ho3 hG3 _; refine wp_stop ?_)
      have hB3 := hB.grown hG3 hB.size (fun k hk => by have := (ho.lt k hk).1; omega)
      have hz3 := hz.keep (hG3.block _ hz.lt (fun e => by have := (ho.lt _ e.symm).1; omega))
      rw [app_zeros, show L + 1 = p.length + 1 + (k + 1) from by have := HL.out; omega] at ho3
      obtain ⟨A3, c3, rfl⟩ := own_shape ho3
      refine wp_go ?_
      go_wp2
      go_roundw
      case rel => exact ⟨k + 1, hk', ho3, hz3, hB3⟩
      case measure => show p.length + 65 - (p.length + 1 + (k + 1)) < p.length + 65 - L; have := HL.out; omega

/-- two digests and a place for a third -/
def P3 (x y : List UInt8) (w w' : World) : Prop := Blk w' w.heap.size 41 (bvs x) ∧ Blk w' (w.heap.size + 1) 41 (bvs y) ∧ Blk w' (w.heap.size + 1 + 1) 41 (zs8 32) ∧ Below w.heap.size w w'
theorem P3.below {x y : List UInt8} {w w' w'' : World} (h : P3 x y w w') (hB : Below w'.heap.size w' w'') : P3 x y w w'' := ⟨h.1.below hB, h.2.1.below hB, h.2.2.1.below hB, h.2.2.2.trans (hB.mono h.2.2.2.size)⟩
theorem P3.new (x y : List UInt8) (w : World) : P3 x y w (((w.alloc (.cells (bvs x).toArray 41)).alloc (.cells (bvs y).toArray 41)).alloc (.cells (zs8 32).toArray 41)) := by
  refine ⟨((Blk.new' w 41 _).alloc _).alloc _, ?_, ?_, (((Below.refl _ _).alloc (Nat.le_refl _) _).alloc (by simp) _).alloc (by simp; omega) _⟩
  · have := (Blk.new' (w.alloc (.cells (bvs x).toArray 41)) 41 (bvs y)).alloc (.cells (zs8 32).toArray 41)
    simpa using this
  · have := Blk.new' ((w.alloc (.cells (bvs x).toArray 41)).alloc (.cells (bvs y).toArray 41)) 41 (zs8 32)
    simpa using this
end Go.Proofs.YtmjpkdehkdpdpaaDoor
