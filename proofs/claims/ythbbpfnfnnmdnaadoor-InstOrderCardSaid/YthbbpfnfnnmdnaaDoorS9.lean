/- S9: several texts in one (R3 S8 S9). -/
import Derived.Test.YthbbpfnfnnmdnaaDoorMP
import Derived.Test.YthbbpfnfnnmdnaaDoorVA
import Derived.Great.BuildSlice
import Derived.Test.YthbbpfnfnnmdnaaDoorS7
import Derived.BigRegion
import Derived.IntWalk
/- R3: contract of the document's ReadFixed, where the bytes are there. -/
namespace Go.Proofs.YthbbpfnfnnmdnaaDoor
open Go.RowKit Go.V
/-- the number of n bytes from a place on, the highest first -/
def nb (b : List UInt8) (k : Nat) : Nat → Nat
  | 0 => 0
  | n + 1 => 256 * nb b k n + (b.getD (k + n) 0).toNat
theorem nb_lt (b : List UInt8) (k : Nat) : ∀ n, nb b k n < 256 ^ n
  | 0 => by simp [nb]
  | n + 1 => by
    have h := nb_lt b k n
    have := (b.getD (k + n) 0).toNat_lt
    rw [nb, Nat.pow_succ]
    omega
theorem size54 : (Tryd.prog.info? 143).map (·.size) = some 4 := by kernel_rfl
theorem zero54 : (Tryd.prog.info? 143).map (·.zero) = some (some (.agg [.int .u64 0, .slice none 0 0, .int .i64 0, .int .i64 0].toArray)) := by kernel_rfl
theorem bld54 (x n : Int) : ∀ W : World, (Instr.build 143 [(0, .int .u64 x), (2, .int .i64 n)].toArray).run Tryd.prog W = .ok (.agg #[.int .u64 x, .slice none 0 0, .int .i64 n, .int .i64 0]) W := fun _ => by kernel_rfl

theorem fld54 (x y : Int) (n : Int) : ∀ W : World, (Instr.field 143 (.agg #[.int .u64 x, .slice none 0 0, .int .i64 n, .int .i64 y]) 0).run Tryd.prog W = .ok (.int .u64 x) W := fun _ => by kernel_rfl
set_option maxRecDepth 100000 in
set_option maxHeartbeats 1000000 in
theorem readx_any (v : Value) (b : List UInt8) (k n : Nat) (F : Nat → Prop) (w : World) (ht : Rd w F v (bys b)) (hn : n = 1 ∨ n = 2 ∨ n = 4 ∨ n = 8) (hk : k + n ≤ b.length) :
    Calls Tryd.prog 83 #[v, .int .i64 (k : Int), .int .i64 (n : Int)] w fun e w' => e = .returned (.agg #[.int .u64 (nb b k n : Int), .slice none 0 0, .int .i64 (n : Int), .int .i64 0]) ∧ Below w.heap.size w w' := by
  obtain ⟨A, c, rfl⟩ := ht.shape
  have hbl : b.length ≤ 9223372036854775807 := by
    obtain ⟨_, c', e, h1, h2, _⟩ := ht.bytes
    unfold maxLen at h2
    omega
  have hd : decide ((n : Int) = 1 ∨ (n : Int) = 2 ∨ (n : Int) = 4 ∨ (n : Int) = 8) = true := decide_eq_true (by omega)
  have hn8 : n ≤ 8 := by omega
  clear hn
  go_enter Tryd.func83, Tryd.ntmps83
  go_wp2_with (first | (refine wp_new 143 rfl rfl zero54 ?_))
  refine (wide_any _ _).mono ?_
  rintro e w0 ⟨rfl, rfl⟩
  rw [hd]
  have hz := Blk.new' w 143 [.int .u64 0, .slice none 0 0, .int .i64 0, .int .i64 0]
  have hB : Below w.heap.size w (w.alloc (.cells [.int .u64 0, .slice none 0 0, .int .i64 0, .int .i64 0].toArray 143)) := (Below.refl _ _).alloc (Nat.le_refl _) _
  have hr := ht.below hB
  obtain ⟨w1, hw1⟩ : ∃ w1, w1 = (w.alloc (.cells [.int .u64 0, .slice none 0 0, .int .i64 0, .int .i64 0].toArray 143)) := ⟨_, rfl⟩
  rw [← hw1] at hz hB hr
  first | rw [← hw1] | (simp only [List.toArray] at hw1; rw [← hw1])
  clear hw1
  go_wp2
  go_loop [7, 8] (fun nv iv => ∃ i : Nat, i ≤ n ∧ iv = .int .i64 i ∧ nv = .int .u64 (nb b k i : Int)) (fun _ iv => n - (intOf iv).toNat)
  case atStart => exact ⟨0, by omega, rfl, rfl⟩
  case round =>
    obtain ⟨i, hi, rfl, rfl⟩ := hrel
    have hlt' := nb_lt b k i
    by_cases hil : i < n
    · obtain ⟨g, off, rfl, _, hc1⟩ := hr.byteAt (k + i) (by omega)
      have hpow : 256 ^ (i + 1) ≤ 256 ^ 8 := Nat.pow_le_pow_right (by omega) (by omega)
      have hnx := nb_lt b k (i + 1)
      have hs : Hid (nb b k (i + 1) = 256 * nb b k i + (b[k + i]'(by omega)).toNat) := by
        show _ = _
        rw [nb, List.getD_eq_getElem?_getD, List.getElem?_eq_getElem (by omega)]
        rfl
      obtain ⟨y, hy⟩ : ∃ y, y = b[k + i]'(by omega) := ⟨_, rfl⟩
      rw [← hy] at hc1 hs
      clear hy
      have hyl := y.toNat_lt
      obtain ⟨N, hN⟩ : ∃ N, N = nb b k i := ⟨_, rfl⟩
      rw [← hN] at hs hlt' ⊢
      clear hN
      have hN64 : 256 * N + y.toNat < 18446744073709551616 := by
        rw [← hs.out]
        exact Nat.lt_of_lt_of_le hnx (Nat.le_trans hpow (by decide))
      clear hpow hnx hlt'
      rw [show off + (k + i) = off + (k + i) from rfl] at hc1
      go_wp2
      go_round
      case rel => exact ⟨i + 1, by omega, by go_num, by rw [hs.out]; go_num⟩
      case measure => simp [intOf]; omega
    · have hii : i = n := by omega
      subst hii
      have hb54 := bld54 (nb b k i : Int) (i : Int)
      go_wp2_with (first | (refine wp_bld 143 [(0, .tmp 35), (2, .tmp 36)] rfl rfl [(0, .int .u64 (nb b k i : Int)), (2, .int .i64 (i : Int))] rfl hb54 ?_) | (refine wp_st 143 (.tmp 6) (.tmp 37) rfl rfl rfl (f := 0) rfl (l := [.int .u64 (nb b k i : Int), .slice none 0 0, .int .i64 (i : Int), .int .i64 0]) rfl hz (by simp) size54 (by simp [Value.oneCell']) ?_; intro w7 hb7 hG7))
      refine ret_cell rfl rfl (l := [.int .u64 (nb b k i : Int), .slice none 0 0, .int .i64 (i : Int), .int .i64 0]) hb7.whole Tryd.underlying143 rfl size54 rfl ?_
      exact ⟨rfl, hB.grown hG7 hB.size (by intro k hk; injection hk with hk; omega)⟩

end Go.Proofs.YthbbpfnfnnmdnaaDoor
/- S8: contracts of the document's ReadFixed, Word. -/
namespace Go.Proofs.YthbbpfnfnnmdnaaDoor
open Go.RowKit Go.V

theorem nb4 (b : List UInt8) (i : Nat) : (be4 b i).toNat = nb b (4 * i) 4 := by
  have h := nb_lt b (4 * i) 4
  unfold be4
  rw [UInt32.toNat_ofNat']
  simp only [nb, Nat.add_zero] at h ⊢
  rw [Nat.mod_eq_of_lt (by omega)]
  omega
def klp : List (Nat × Operand) := (kl.zipIdx 0).map fun x => (x.2, .const (u32V x.1))
def klv : List (Nat × Value) := (kl.zipIdx 0).map fun x => (x.2, u32V x.1)
theorem klp_klv (a : Act) : (klp.map fun x => (x.1, a.eval x.2)) = klv := by simp [klp, klv, Function.comp_def, Act.eval]
theorem bldK : ∀ W : World, (Instr.build 147 klv.toArray).run Tryd.prog W = .ok (.agg (wvs kl).toArray) W := fun _ => by kernel_rfl
set_option maxRecDepth 100000 in
set_option maxHeartbeats 1000000 in
theorem word_any (i : Nat) (w : World) (hi : i < 64) :
    Calls Tryd.prog 99 #[.int .i64 (i : Int)] w fun e w' => e = .returned (.int .u32 ((kc i).toNat : Int)) ∧ Below w.heap.size w w' := by
  go_enter Tryd.func99, Tryd.ntmps99
  have hkc := hid (wvs_at kl i (kc i) (by
    unfold kc
    rw [List.getD_eq_getElem?_getD, List.getElem?_eq_getElem (by simpa [kl] using hi)]
    rfl))
  have hz := Blk.new' w 147 (zs32 64)
  have hB : Below w.heap.size w (w.alloc (.cells (zs32 64).toArray 147)) := (Below.refl _ _).alloc (Nat.le_refl _) _
  go_wp2_with (first | (refine wp_bld (o := ⟨some 4, .build 147 _, _, _, _, none⟩) 147 klp (by rfl) (by kernel_rfl) klv (klp_klv _) bldK ?_) | (refine wp_new 147 rfl rfl zero64 ?_) | (refine wp_st 147 (.tmp 3) (.tmp 4) rfl rfl rfl (f := 0) rfl (l := wvs kl) rfl hz (by simp [zs32, len_wvs, kl]) size64 (oneCell_wvs _) ?_; intro w7 hb7 hG7; rw [show (zs32 64).take 0 ++ wvs kl ++ (zs32 64).drop (0 + (wvs kl).length) = wvs kl from by simp [len_wvs, kl, zs32]] at hb7; have hc7 := hb7.cellAt i _ hkc.out; unfold u32V at hc7))
  go_ret
  exact ⟨rfl, hB.grown hG7 hB.size (by intro k hk; injection hk with hk; omega)⟩
end Go.Proofs.YthbbpfnfnnmdnaaDoor
/- S9: contract of the document's block. -/
namespace Go.V
open Go.RowKit
/-- 'v reads as these words' -/
def RdW (w : World) (F : Nat → Prop) (v : Value) (l : List UInt32) : Prop := ∃ A c, v = .slice A l.length c ∧ l.length ≤ c ∧ c ≤ maxLen ∧ ∀ j (u : Value), (wvs l)[j]? = some u → ∃ g off, A = some ⟨g, off, none⟩ ∧ F g ∧ w.cell? ⟨g, off + j, none⟩ = some u
theorem RdW.keep {w w' : World} {F : Nat → Prop} {v : Value} {l : List UInt32} (h : RdW w F v l) (hb : ∀ b, b < w.heap.size → F b → w'.heap[b]? = w.heap[b]?) : RdW w' F v l := by
  obtain ⟨A, c, hv, h1, h2, h3⟩ := h
  refine ⟨A, c, hv, h1, h2, fun j u hu => ?_⟩
  obtain ⟨g, off, hA, hg, hc⟩ := h3 j u hu
  exact ⟨g, off, hA, hg, (World.cell?_of_block (hb g (lt_of_cell hc) hg)).trans hc⟩
theorem RdW.below {w w' : World} {F : Nat → Prop} {v : Value} {l : List UInt32} (h : RdW w F v l) (hB : Below w.heap.size w w') : RdW w' F v l := h.keep fun b hb _ => hB.block b hb
theorem RdW.of_own {w : World} {base : Nat} {e : TypeId} {v : Value} {n : Nat} {l : List UInt32} (h : w.ownsRow base e 1 v n (wvs l)) : RdW w (fun b => base ≤ b) v l := by
  have hn : n = l.length := by have := h.1; simp [wvs] at this; omega
  subst hn
  rcases h.2 with ⟨rfl, h0⟩ | ⟨g, cap, cur, rfl, hg, hh, h1, h2, h3, h4⟩
  · have : l = [] := List.eq_nil_of_length_eq_zero h0
    subst this
    exact ⟨none, 0, rfl, Nat.le_refl _, by simp [maxLen], fun j u hu => by simp [wvs] at hu⟩
  · refine ⟨_, cap, rfl, h1, h2, fun j u hu => ⟨g, 0, rfl, hg, ?_⟩⟩
    have := h.cells (g := g) rfl j u hu
    rw [add_mk] at this
    exact this
end Go.V
namespace Go.Proofs.YthbbpfnfnnmdnaaDoor
open Go.RowKit Go.V
theorem slW : SlT Tryd.prog 155 125 (.int .u32 0) 4 := .of Tryd.underlying155 (by kernel_rfl) rfl
theorem rd_out (b : List UInt8) (i : Nat) : (nb b (4 * i) 4 : Int) % 4294967296 = ((be4 b i).toNat : Int) := by
  have h := u32lt (be4 b i)
  rw [nb4] at *
  omega

/-- what holds while the rounds go -/
def QS (b : List UInt8) (w w' : World) : Prop := Blk w' w.heap.size 125 (wvs (wl b 64)) ∧ Below w.heap.size w w'
def QSx (b : List UInt8) (k : Nat) (x : UInt32) (w w' : World) : Prop := w'.cell? ⟨w.heap.size, k, none⟩ = some (.int .u32 (x.toNat : Int)) ∧ QS b w w'
theorem QS.x {b : List UInt8} {k : Nat} {x : UInt32} {w w' : World} (h : QS b w w') (hx : (wl b 64)[k]? = some x) : QSx b k x w w' := ⟨h.1.cellAt k _ (wvs_at _ _ _ hx), h⟩
theorem QS.drewR {b : List UInt8} {k : Nat} {x : UInt32} {w w' : World} (h : QS b w w') (hx : Hid ((wl b 64)[k]? = some x)) : QSx b k x w w'.drew := QS.x ⟨h.1.drew, h.2.drew⟩ hx.out
theorem QS.belowR {b : List UInt8} {k : Nat} {x : UInt32} {w w' w'' : World} (hB : Below w'.heap.size w' w'') (h : QS b w w') (hx : Hid ((wl b 64)[k]? = some x)) : QSx b k x w w'' := QS.x ⟨h.1.below hB, h.2.trans (hB.mono h.2.size)⟩ hx.out
/-- the state's cells, as long as nothing old is turned -/
def Sx (gs os : Nat) (s : S8) (w w' : World) : Prop :=
  w'.cell? ⟨gs, os, none⟩ = some (.int .u32 (s.a.toNat : Int)) ∧ w'.cell? ⟨gs, os + 1, none⟩ = some (.int .u32 (s.b.toNat : Int)) ∧ w'.cell? ⟨gs, os + 2, none⟩ = some (.int .u32 (s.c.toNat : Int)) ∧ w'.cell? ⟨gs, os + 3, none⟩ = some (.int .u32 (s.d.toNat : Int)) ∧
  w'.cell? ⟨gs, os + 4, none⟩ = some (.int .u32 (s.e.toNat : Int)) ∧ w'.cell? ⟨gs, os + 5, none⟩ = some (.int .u32 (s.f.toNat : Int)) ∧ w'.cell? ⟨gs, os + 6, none⟩ = some (.int .u32 (s.g.toNat : Int)) ∧ w'.cell? ⟨gs, os + 7, none⟩ = some (.int .u32 (s.h.toNat : Int)) ∧ Below w.heap.size w w'
theorem Sx.mk' {gs os : Nat} {s : S8} {w w' : World} (hB : Below w.heap.size w w') (hg : gs < w.heap.size) (hc : Hid (∀ j (u : Value), (wvs (s8l s))[j]? = some u → w.cell? ⟨gs, os + j, none⟩ = some u)) : Sx gs os s w w' := by
  have cc : ∀ j (u : Value), (wvs (s8l s))[j]? = some u → w'.cell? ⟨gs, os + j, none⟩ = some u := fun j u hu => (World.cell?_of_block (hB.block gs hg)).trans (hc.out j u hu)
  exact ⟨cc 0 _ rfl, cc 1 _ rfl, cc 2 _ rfl, cc 3 _ rfl, cc 4 _ rfl, cc 5 _ rfl, cc 6 _ rfl, cc 7 _ rfl, hB⟩
theorem bsW (x0 x1 x2 x3 x4 x5 x6 x7 : Int) : ∀ W : World, (Instr.buildSlice 155 8 #[(0, .int .u32 x0), (1, .int .u32 x1), (2, .int .u32 x2), (3, .int .u32 x3), (4, .int .u32 x4), (5, .int .u32 x5), (6, .int .u32 x6), (7, .int .u32 x7)]).run Tryd.prog W = .ok (.slice (some ⟨W.heap.size, 0, none⟩) 8 8) (W.alloc (.cells #[.int .u32 x0, .int .u32 x1, .int .u32 x2, .int .u32 x3, .int .u32 x4, .int .u32 x5, .int .u32 x6, .int .u32 x7] 125)) := fun _ => by kernel_rfl
theorem srcW (w : World) (t : TypeId) (l : List Value) : Src (w.alloc (.cells l.toArray t)) (some ⟨w.heap.size, 0, none⟩) l.length l := by
  refine ⟨rfl, fun j u hu => ⟨_, _, rfl, ?_⟩⟩
  rw [Nat.zero_add]
  exact (Blk.new' w t l).cellAt j u hu
theorem readx4 (v : Value) (b : List UInt8) (i : Nat) (F : Nat → Prop) (w : World) (ht : Rd w F v (bys b)) (hk : 4 * i + 4 ≤ b.length) :
    Calls Tryd.prog 83 #[v, .int .i64 (4 * (i : Int)), .int .i64 4] w fun e w' => e = .returned (.agg #[.int .u64 (nb b (4 * i) 4 : Int), .slice none 0 0, .int .i64 4, .int .i64 0]) ∧ Below w.heap.size w w' := by
  have := readx_any v b (4 * i) 4 F w ht (by omega) hk
  rw [show ((4 * i : Nat) : Int) = 4 * (i : Int) from by omega, show ((4 : Nat) : Int) = 4 from rfl] at this
  exact this
set_option maxRecDepth 100000 in
set_option maxHeartbeats 1000000 in
theorem block_any (s : S8) (b : List UInt8) (sv bv : Value) (F G : Nat → Prop) (w : World) (hs : RdW w F sv (s8l s)) (hb : Rd w G bv (bys b)) (hl : b.length = 64) :
    Calls Tryd.prog 95 #[sv, bv] w fun e w' => ∃ v', e = .returned v' ∧ w'.ownsRow w.heap.size 125 1 v' 8 (wvs (s8l (blockF s b))) ∧ Below w.heap.size w w' := by
  obtain ⟨As, cs, rfl, hs1, hs2, hs3⟩ := id hs
  obtain ⟨gs, os, rfl, hgs, hsc0⟩ := hs3 0 _ rfl
  obtain ⟨A, c, rfl⟩ := hb.shape
  rw [hl] at hb ⊢
  have Hl := hid hl
  clear hl
  have hgsl := lt_of_cell hsc0
  have hcell : ∀ j (u : Value), (wvs (s8l s))[j]? = some u → w.cell? ⟨gs, os + j, none⟩ = some u := by
    intro j u hu
    obtain ⟨g', off', h', _, hc'⟩ := hs3 j u hu
    injection h' with h'
    injection h' with h1 h2
    subst h1 h2
    exact hc'
  have Hcell := hid hcell
  clear hcell hs3 hsc0
  go_enter Tryd.func95, Tryd.ntmps95
  go_wp2_with (refine wp_mk slW rfl (.const (.int .i64 64)) (.const (.int .i64 64)) rfl rfl 64 rfl rfl (by omega) (by simp [maxLen]) (zs32 64) rfl ?_)
  have hz := Blk.new' w 125 (zs32 64)
  have hB : Below w.heap.size w (w.alloc (.cells (zs32 64).toArray 125)) := (Below.refl _ _).alloc (Nat.le_refl _) _
  obtain ⟨w1, hw1⟩ : ∃ w1, w1 = (w.alloc (.cells (zs32 64).toArray 125)) := ⟨_, rfl⟩
  rw [← hw1] at hz hB ⊢
  clear hw1
  have hz0 : Blk w1 w.heap.size 125 (part64 b 0) := hz
  clear hz
  go_loopw [6] (fun iv wr => ∃ i : Nat, i ≤ 64 ∧ iv = .int .i64 i ∧ Blk wr w.heap.size 125 (part64 b i) ∧ Below w.heap.size w wr) (fun iv _ => 64 - (intOf iv).toNat)
  case atStart => exact ⟨0, by omega, rfl, hz0, hB⟩
  case round =>
    obtain ⟨i, hi, rfl, g3, gB⟩ := hrel
    by_cases hil : i < 64
    · by_cases h16 : i < 16
      · have Hs := hid (part64_set b i hil (be4 b i) (by rw [if_pos h16]))
        have Hrd := hid (rd_out b i)
        have hfl := fld54 (nb b (4 * i) 4 : Int) 0 4
        have hnl : nb b (4 * i) 4 < 18446744073709551616 := Nat.lt_of_lt_of_le (nb_lt b (4 * i) 4) (by decide)
        go_wp2_with (fail)
        ((with_reducible refine (readx4 _ b i _ _ (hb.below gB) (by rw [Hl.out]; omega)).mono ?_))
        rintro e w3 ⟨rfl, hB3⟩
        have k3 := g3.below hB3
        have kB := gB.trans (hB3.mono gB.size)
        go_wp2_with (refine wp_st1 125 (.tmp 38) (.tmp 37) rfl rfl rfl (f := i) rfl (v := u32V (be4 b i)) (congrArg (Value.int .u32) Hrd.out) k3 (by rw [part64_len _ _ (by omega)]; omega) size32 rfl rfl ?_; intro w7 hb7 hG7)
        rw [Hs.out] at hb7
        have hB7 := kB.grown hG7 kB.size (by intro k hk; injection hk with hk; omega)
        go_wp2
        go_roundw
        case rel => exact ⟨i + 1, by omega, by go_num, hb7, hB7⟩
        case measure => simp [intOf]; omega
      · obtain ⟨A, hA⟩ : ∃ A, A = (wl b i).getD (i - 15) 0 := ⟨_, rfl⟩
        obtain ⟨B, hB'⟩ : ∃ B, B = (wl b i).getD (i - 2) 0 := ⟨_, rfl⟩
        obtain ⟨C, hC⟩ : ∃ C, C = (wl b i).getD (i - 7) 0 := ⟨_, rfl⟩
        obtain ⟨D, hD⟩ : ∃ D, D = (wl b i).getD (i - 16) 0 := ⟨_, rfl⟩
        have cA := g3.cellAt _ _ (part64_at b i (i - 15) (by omega))
        have cB := g3.cellAt _ _ (part64_at b i (i - 2) (by omega))
        have cC := g3.cellAt _ _ (part64_at b i (i - 7) (by omega))
        have cD := g3.cellAt _ _ (part64_at b i (i - 16) (by omega))
        unfold u32V at cA cB cC cD
        rw [← hA] at cA
        rw [← hB'] at cB
        rw [← hC] at cC
        rw [← hD] at cD
        have Hs := hid (part64_set b i hil (sg1 B + C + sg0 A + D) (by rw [if_neg (by omega), hA, hB', hC, hD]; rfl))
        clear hA hB' hC hD
        have eA : ((i : Int) - 15).toNat = i - 15 := by omega
        have eB : ((i : Int) - 2).toNat = i - 2 := by omega
        go_wp2_with (go_at_call 98; refine (turn_l _ _ _ (by omega) (by omega)).mono ?_; rintro e' w' ⟨rfl, rfl⟩; simp only [Int.reduceToNat])
        clear cA cB eA eB
        have e0 : bits BinOp.xor IntKind.u32 (bits BinOp.xor IntKind.u32 ((rotr A 7).toNat : Int) ((rotr A 18).toNat : Int)) ((A.toNat : Int) / 8) = ((sg0 A).toNat : Int) := by rw [xor_out, shr3, xor_out]; rfl
        have e1 : bits BinOp.xor IntKind.u32 (bits BinOp.xor IntKind.u32 ((rotr B 17).toNat : Int) ((rotr B 19).toNat : Int)) ((B.toNat : Int) / 1024) = ((sg1 B).toNat : Int) := by rw [xor_out, shr10, xor_out]; rfl
        rw [e0, e1]
        clear e0 e1
        have eA : ((i : Int) - 7).toNat = i - 7 := by omega
        have eB : ((i : Int) - 16).toNat = i - 16 := by omega
        have wA : IntKind.i64.wrap ((i : Int) - 7) = (i : Int) - 7 := IntWalk.i64_in _ (by omega)
        have wB : IntKind.i64.wrap ((i : Int) - 16) = (i : Int) - 16 := IntWalk.i64_in _ (by omega)
        have nA : (0 : Int) ≤ (i : Int) - 7 := by omega
        have nB : (0 : Int) ≤ (i : Int) - 16 := by omega
        have bA : (i : Int) - 7 < 64 := by omega
        have bB : (i : Int) - 16 < 64 := by omega
        have mA : (7 : Int) ≤ (i : Int) := by omega
        have mB : (16 : Int) ≤ (i : Int) := by omega
        refine wp_region_tail 17 (by kernel_rfl) (by kernel_rfl) ?_
        simp only [List.take_succ_cons, List.take_zero, List.drop_succ_cons, List.drop_zero]
        repeat still_step
        refine wpStill_nil ?_
        clear wA wB nA nB bA bB eA eB cC cD mA mB
        simp only [wadd_out]
        have k3d := g3.drew
        go_wp2_with (refine wp_st1 125 (.tmp 82) (.tmp 81) rfl rfl rfl (f := i) rfl (v := u32V (sg1 B + C + sg0 A + D)) rfl k3d (by rw [part64_len _ _ (by omega)]; omega) size32 rfl rfl ?_; intro w3 k3' hG3)
        rw [Hs.out] at k3'
        have kB' : Below w.heap.size w w3 := gB.drew.grown hG3 gB.size (by intro k hk; injection hk with hk; omega)
        go_wp2
        go_roundw
        case rel => exact ⟨i + 1, by omega, by go_num, k3', kB'⟩
        case measure => simp [intOf]; omega
    · have h64 : i = 64 := by omega
      subst h64
      rw [part64_end] at g3
      clear hil hi hB hz0
      rw [show ((64 : Nat) : Int) = 64 from rfl]
      have hq : QS b w wr := ⟨g3, gB⟩
      have cc : ∀ j (u : Value), (wvs (s8l s))[j]? = some u → wr.cell? ⟨gs, os + j, none⟩ = some u := fun j u hu => (World.cell?_of_block (gB.block gs hgsl)).trans (Hcell.out j u hu)
      have c0 := cc 0 _ rfl
      have c1 := cc 1 _ rfl
      have c2 := cc 2 _ rfl
      have c3 := cc 3 _ rfl
      have c4 := cc 4 _ rfl
      have c5 := cc 5 _ rfl
      have c6 := cc 6 _ rfl
      have c7 := cc 7 _ rfl
      unfold u32V at c0 c1 c2 c3 c4 c5 c6 c7
      rw [Nat.add_zero] at c0
      rw [show (s8l s).length = 8 from rfl]
      clear cc
      go_wp2
      clear c0 c1 c2 c3 c4 c5 c6 c7
      go_loopw [11, 12, 13, 14, 15, 16, 17, 18, 19] (fun va vb vc vd ve vf vg vh kv wr => ∃ (k : Nat) (a b' c d e f g h : UInt32), k ≤ 64 ∧ kv = .int .i64 k ∧ va = .int .u32 (a.toNat : Int) ∧ vb = .int .u32 (b'.toNat : Int) ∧ vc = .int .u32 (c.toNat : Int) ∧ vd = .int .u32 (d.toNat : Int) ∧ ve = .int .u32 (e.toNat : Int) ∧ vf = .int .u32 (f.toNat : Int) ∧ vg = .int .u32 (g.toNat : Int) ∧ vh = .int .u32 (h.toNat : Int) ∧ rnds (wl b 64) s k = ⟨a, b', c, d, e, f, g, h⟩ ∧ QS b w wr) (fun _ _ _ _ _ _ _ _ kv _ => 64 - (intOf kv).toNat)
      case atStart => exact ⟨0, s.a, s.b, s.c, s.d, s.e, s.f, s.g, s.h, by omega, rfl, rfl, rfl, rfl, rfl, rfl, rfl, rfl, rfl, rfl, hq⟩
      case round =>
        clear hq g3 gB
        obtain ⟨k, a, b', c, d, e, f, g, h, hk, rfl, rfl, rfl, rfl, rfl, rfl, rfl, rfl, rfl, hst, hq⟩ := hrel
        have Hst := hid hst
        clear hst
        by_cases hlt : k < 64
        · obtain ⟨x, hx⟩ : ∃ x, (wl b 64)[k]? = some x := ⟨_, List.getElem?_eq_getElem (by rw [wl_len]; exact hlt)⟩
          have Hx := hid hx
          clear hx
          have hk0 : (0 : Int) ≤ (k : Int) := by omega
          have hk1 : (k : Int) < 64 := by omega
          go_wp2
          go_region_held3 (fun w' => w'.cell? ⟨w.heap.size, k, none⟩ = some (.int .u32 (x.toNat : Int)) ∧ QS b w w')
            (first | (go_split_ands; exact QS.belowR (by assumption) (by assumption) Hx) | (go_split_ands; exact QS.drewR (by assumption) Hx) | (go_split_ands; exact QS.x (by assumption) Hx.out))
            (first | (go_at_call 98; refine (turn_l _ _ _ (by omega) (by omega)).mono ?_; rintro e' w' ⟨rfl, rfl⟩; simp only [Int.reduceToNat]) | (go_at_call 99; refine (word_any k _ hlt).mono ?_; rintro e' w' ⟨rfl, hBw⟩; dsimp only))
          go_split_ands
          simp only [ones_u32, xor_out, and_out, not_out, wadd_out]
          rw [show (h + (rotr e 6 ^^^ rotr e 11 ^^^ rotr e 25) + ((e &&& f) ^^^ (~~~e &&& g)) + kc k + x) = tF ⟨a, b', c, d, e, f, g, h⟩ (kc k) x from rfl]
          obtain ⟨T, hT⟩ : ∃ T, T = tF ⟨a, b', c, d, e, f, g, h⟩ (kc k) x := ⟨_, rfl⟩
          rw [← hT]
          have HT := hid hT
          clear hT
          go_wp2_with (go_at_call 98; refine (turn_l _ _ _ (by omega) (by omega)).mono ?_; rintro e' w' ⟨rfl, rfl⟩; simp only [Int.reduceToNat])
          simp only [xor_out, and_out]
          rw [u_out a b' c d e f g h]
          obtain ⟨U, hU⟩ : ∃ U, U = uF ⟨a, b', c, d, e, f, g, h⟩ := ⟨_, rfl⟩
          rw [← hU]
          have HU := hid hU
          clear hU
          go_roundw
          case rel => exact ⟨k + 1, T + U, a, b', c, d + T, e, f, g, by omega, by go_num, congrArg _ (add_out T U), rfl, rfl, rfl, congrArg _ (add_out d T), rfl, rfl, rfl, rnds_s Hst.out Hx.out HT.out HU.out, by assumption⟩
          case measure => simp [intOf]; omega
        · have hfin : Hid (blockF s b = addS s ⟨a, b', c, d, e, f, g, h⟩) := by
            show _ = _
            have : k = 64 := by omega
            unfold blockF
            rw [← Hst.out, this]
          have hBr := hq.2
          have hsx := Sx.mk' (gs := gs) (os := os) (s := s) hBr hgsl Hcell
          obtain ⟨c0, c1, c2, c3, c4, c5, c6, c7, _⟩ := hsx
          clear hq
          go_wp2
          have hbw := bsW
          go_region_held3 (fun w' => w'.cell? ⟨gs, os, none⟩ = some (.int .u32 (s.a.toNat : Int)) ∧ w'.cell? ⟨gs, os + 1, none⟩ = some (.int .u32 (s.b.toNat : Int)) ∧ w'.cell? ⟨gs, os + 2, none⟩ = some (.int .u32 (s.c.toNat : Int)) ∧ w'.cell? ⟨gs, os + 3, none⟩ = some (.int .u32 (s.d.toNat : Int)) ∧
              w'.cell? ⟨gs, os + 4, none⟩ = some (.int .u32 (s.e.toNat : Int)) ∧ w'.cell? ⟨gs, os + 5, none⟩ = some (.int .u32 (s.f.toNat : Int)) ∧ w'.cell? ⟨gs, os + 6, none⟩ = some (.int .u32 (s.g.toNat : Int)) ∧ w'.cell? ⟨gs, os + 7, none⟩ = some (.int .u32 (s.h.toNat : Int)) ∧ Below w.heap.size w w')
            (first | (go_split_ands; exact Sx.mk' (by assumption) hgsl Hcell) | (go_split_ands; exact Sx.mk' (Below.drew (by assumption)) hgsl Hcell) | (go_split_ands; exact Sx.mk' (Below.alloc (by assumption) (Below.size (by assumption)) _) hgsl Hcell))
            ((go_split_ands; refine step_app (.tmp 170) (.tmp 211) slW (by rfl) (by rfl) (base := w.heap.size) (by rfl) (World.ownsRow_nil _ _ _ _) (by rfl) (srcW _ _ _) (by simp [Value.oneCell']) (by simp [maxLen]) (by simp) (Below.size (by assumption)) ?_; intro v9 w9 hO9 hG9; have hB9 := Below.grown (by assumption) hG9 (Below.size (by assumption)) (by intro k hk; cases hk)))
          simp only [wadd_out] at hO9
          have hO : w9.ownsRow w.heap.size 125 1 v9 8 (wvs (s8l (blockF s b))) := by
            rw [hfin.out]
            exact hO9
          go_wp2
          go_ret
          exact ⟨v9, rfl, hO, hB9⟩
end Go.Proofs.YthbbpfnfnnmdnaaDoor
