/- O1: layer 4: pieces, chains and digits as list functions; contracts of the document's Piece, Walk, Secret. -/
import Derived.Test.YtcbojdbmfjhkiaaDoorSA
import Derived.Test.YtcbojdbmfjhkiaaDoorVC
namespace Go.V
open Go.RowKit
def pieceF (t : List UInt8) : List UInt8 := (shaF t).take 16
/-- k steps of chain j from step f on -/
def walkF (p : List UInt8) (j f : Nat) : Nat → List UInt8
  | 0 => p
  | k + 1 => pieceF (walkF p j f k ++ [UInt8.ofNat j, UInt8.ofNat (f + k)])
theorem walkF_add (p : List UInt8) (j f a : Nat) : ∀ b, walkF (walkF p j f a) j (f + a) b = walkF p j f (a + b)
  | 0 => rfl
  | b + 1 => by
    rw [walkF, walkF_add p j f a b, ← Nat.add_assoc, walkF, Nat.add_assoc]
def secF (seed : List UInt8) (idx : Int) (j : Nat) : List UInt8 := pieceF (seed ++ fx 8 (idx % 18446744073709551616).toNat ++ [UInt8.ofNat j])
end Go.V
namespace Go.Proofs.YtcbojdbmfjhkiaaDoor
open Go.RowKit Go.V
theorem len_piece (t : List UInt8) : (pieceF t).length = 16 := by unfold pieceF; rw [List.length_take, len_sha]; rfl
theorem len_walk (p : List UInt8) (j f : Nat) (hp : p.length = 16) : ∀ k, (walkF p j f k).length = 16
  | 0 => hp
  | _ + 1 => len_piece _
theorem len_sec (seed : List UInt8) (idx : Int) (j : Nat) : (secF seed idx j).length = 16 := len_piece _
set_option maxRecDepth 100000 in
theorem rpiece_any (v : Value) (p : List UInt8) (F : Nat → Prop) (w : World) (ht : Rd w F v (bys p)) (hn : p.length ≤ 17592186044416) :
    Calls Tryd.prog 47 #[v] w fun e w' => ∃ v', e = .returned v' ∧ Rd w' (fun b => w.heap.size ≤ b) v' (bys (pieceF p)) ∧ Below w.heap.size w w' := by
  obtain ⟨A, c, rfl⟩ := ht.shape
  go_enter Tryd.func47, Tryd.ntmps47
  go_wp2_with (fail)
  refine (rsum_any _ p _ _ ht hn).mono ?_
  rintro e w1 ⟨rfl, hB1⟩
  obtain ⟨d, hd⟩ : ∃ d, d = shaF p := ⟨_, rfl⟩
  rw [← hd]
  have hdl : Hid (d.length = 32) := by show _ = _; rw [hd]; exact len_sha _
  have Hd := hid hd
  clear hd
  go_wp2_with (fail)
  refine (rbytes_any d _ hdl.out).mono ?_
  rintro e w2 ⟨v2, rfl, hn2⟩
  have hr2 := hn2.rd
  obtain ⟨A2, c2, rfl⟩ := hr2.shape
  obtain ⟨A3, m3, c3, hcut, hr3⟩ := Rd.cut_h slB hr2 16 (by omega) (by rw [hdl.out]; omega)
  go_wp2
  go_ret
  refine ⟨_, rfl, ?_, hB1.trans (hn2.2.mono hB1.size)⟩
  unfold pieceF
  rw [← Hd.out]
  exact hr3.weak (fun b _ h => by have : w1.heap.size ≤ b := h; have := hB1.size; omega)
theorem bs2B (x0 x1 : Int) : ∀ W : World, (Instr.buildSlice 24 2 #[(0, .int .u8 x0), (1, .int .u8 x1)]).run Tryd.prog W = .ok (.slice (some ⟨W.heap.size, 0, none⟩) 2 2) (W.alloc (.cells #[.int .u8 x0, .int .u8 x1] 5)) := fun _ => by kernel_rfl
theorem bvs2 (p : List UInt8) (j k : Nat) : bvs p ++ [.int .u8 ((j : Int) % 256), .int .u8 ((k : Int) % 256)] = bvs (p ++ [UInt8.ofNat j, UInt8.ofNat k]) := by
  have e : ∀ n : Nat, (n : Int) % 256 = (((UInt8.ofNat n).toNat : Nat) : Int) := fun n => by rw [UInt8.toNat_ofNat']; omega
  rw [e, e]
  simp [bvs, byteV]
set_option maxRecDepth 100000 in
set_option maxHeartbeats 1000000 in
theorem rwalk_any (v : Value) (p : List UInt8) (j f n : Nat) (F : Nat → Prop) (w : World) (ht : Rd w F v (bys p)) (hp : p.length = 16) (_hj : j ≤ 1000) (hf : f ≤ 1000) (hn : n ≤ 1000) :
    Calls Tryd.prog 33 #[v, .int .i64 (j : Int), .int .i64 (f : Int), .int .i64 (n : Int)] w fun e w' => ∃ v', e = .returned v' ∧ Rd w' (fun b => F b ∨ w.heap.size ≤ b) v' (bys (walkF p j f (n - f))) ∧ Below w.heap.size w w' := by
  have Hp := hid hp
  clear hp
  have ht := ht.weak (F' := fun b => F b ∨ w.heap.size ≤ b) (fun b _ h => .inl h)
  go_enter Tryd.func33, Tryd.ntmps33
  go_wp2_with (fail)
  go_loopw [0, 9] (fun pv sv wr => ∃ k : Nat, (k = 0 ∨ f + k ≤ n) ∧ sv = .int .i64 ((f + k : Nat) : Int) ∧ Rd wr (fun b => F b ∨ w.heap.size ≤ b) pv (bys (walkF p j f k)) ∧ Below w.heap.size w wr) (fun _ sv _ => n - (intOf sv).toNat)
  case atStart => exact ⟨0, .inl rfl, rfl, ht, Below.refl _ _⟩
  case round =>
    obtain ⟨k, hk, rfl, hr, hB⟩ := hrel
    obtain ⟨q, hq⟩ : ∃ q, q = walkF p j f k := ⟨_, rfl⟩
    have hql : Hid (q.length = 16) := by show _ = _; rw [hq]; exact len_walk p j f Hp.out k
    rw [← hq] at hr
    have Hq := hid hq
    clear hq
    obtain ⟨s, hs⟩ : ∃ s, s = f + k := ⟨_, rfl⟩
    rw [← hs]
    rw [← hs] at hk
    have hs1000 : s ≤ 1000 := by omega
    have Hs := hid hs
    clear hs
    obtain ⟨A, c, rfl⟩ := hr.shape
    by_cases hlt : s < n
    · have hbs := hB.size
      have h0 := World.ownsRow_nil wr wr.heap.size 5 1
      have hs1 := hr.src
      have hul := u8w j
      have hus := u8w s
      rw [hql.out] at hs1 ⊢
      go_wp2_with (refine wp_app (.tmp 17) (.tmp 18) slB rfl rfl rfl h0 rfl hs1 (oneCell_bvs q) (by simp [maxLen]) (by omega) (Nat.le_refl _) ?_; intro v2 w2 ho2 hG2 hat2; refine wp_stop ?_)
      rw [List.nil_append, Nat.zero_add] at ho2
      have hB2 := hB.grown hG2 hB.size (fun k hk => by cases hk)
      have hz2 := hG2.size
      have hb2 := bs2B ((j : Int) % 256) ((s : Int) % 256)
      have hpq := hid (bvs2 q j s)
      refine wp_go ?_
      go_wp2_with (with_reducible refine wp_at 25 rfl ?_)
      refine wp_on ?_
      refine wp_pushN (.tmp 20) 25 slB rfl rfl 2 [(0, .tmp 22), (1, .tmp 24)] rfl rfl rfl [(0, .int .u8 ((j : Int) % 256)), (1, .int .u8 ((s : Int) % 256))] (by rfl) [.int .u8 ((j : Int) % 256), .int .u8 ((s : Int) % 256)] hb2 (by intro u hu; simp at hu; rcases hu with rfl | rfl <;> rfl) (by simp) rfl ho2 (by simp [maxLen]) (by simp) (by omega) ?_
      intro v3 w3 ho3 hG3 hat3
      rw [hpq.out] at ho3
      have hB3 := hB2.grown hG3 hB2.size (fun k hk => by have := (ho2.lt k hk).1; omega)
      have hr3 := Rd.of_own ho3
      obtain ⟨A3, c3, rfl⟩ := own_shape ho3
      go_wp2_with (fail)
      refine (rpiece_any _ (q ++ [UInt8.ofNat j, UInt8.ofNat s]) _ _ hr3 (by simp [hql.out])).mono ?_
      rintro e w4 ⟨v4, rfl, hr4, hB4⟩
      have hB4' := hB3.trans (hB4.mono hB3.size)
      have hws : Hid (walkF p j f (k + 1) = pieceF (q ++ [UInt8.ofNat j, UInt8.ofNat s])) := by show _ = _; rw [walkF, ← Hq.out, ← Hs.out]
      have hbs3 := hB3.size
      go_wp2
      go_roundw
      case rel => exact ⟨k + 1, .inr (by have := Hs.out; omega), by have := Hs.out; go_num, by rw [hws.out]; exact hr4.weak (fun b _ h => .inr (by omega)), hB4'⟩
      case measure => simp [intOf]; omega
    · have hkn : k = n - f := by have := Hs.out; omega
      have hfin : Hid (walkF p j f (n - f) = q) := by show _ = _; rw [Hq.out, hkn]
      clear hkn
      go_wp2
      go_ret
      exact ⟨_, rfl, by rw [hfin.out]; exact hr, hB⟩
set_option maxRecDepth 100000 in
set_option maxHeartbeats 1000000 in
theorem rsecret_any (seed : List UInt8) (idx : Int) (j : Nat) (w : World) (hm : seed.length = 32) (h1 : -9223372036854775808 ≤ idx) (h2 : idx ≤ 9223372036854775807) (_hj : j ≤ 1000) :
    Calls Tryd.prog 34 #[.agg (bvs seed).toArray, .int .i64 idx, .int .i64 (j : Int)] w fun e w' => ∃ v', e = .returned v' ∧ Rd w' (fun b => w.heap.size ≤ b) v' (bys (secF seed idx j)) ∧ Below w.heap.size w w' := by
  have hb3 := Blk.new' w 23 (bvs seed)
  have hB := (Below.refl w.heap.size w).alloc (Nat.le_refl _) (.cells (bvs seed).toArray 23)
  obtain ⟨x, hx, ex, Hx⟩ := u64w idx h1 h2
  have HX := hid Hx
  have Hm := hid hm
  clear hm Hx
  have huj := u8w j
  go_enter Tryd.func34, Tryd.ntmps34
  go_wp2_with (refine wp_ld 23 (.tmp 3) rfl rfl rfl hb3.whole und25 rfl (by rw [len_bvs, Hm.out]; exact size25) ?_)
  refine (rbytes_any seed _ Hm.out).mono ?_
  rintro e w1 ⟨v1, rfl, ho1, hB1⟩
  rw [Hm.out] at ho1
  have hB1' := hB.trans (hB1.mono hB.size)
  go_wp2_with (fail)
  refine (refx_any x 8 _ hx).mono ?_
  rintro e w2 ⟨v2, rfl, hn2⟩
  rw [fixR8] at hn2
  have hB2 := hB1'.trans (hn2.2.mono hB1'.size)
  have ho2 := own_keepB ho1 hn2.2
  have hs2 := hn2.rd
  obtain ⟨A2, c2, rfl⟩ := hs2.shape
  have hs2 := hs2.src
  rw [len_fx] at hs2 ⊢
  have hz2 := hB2.size
  have hz1 := hB1.size
  have hz12 := hn2.2.size
  go_wp2_with (with_reducible refine wp_at 14 rfl ?_)
  refine wp_on ?_
  refine wp_app (.tmp 10) (.tmp 13) slB rfl rfl rfl ho2 rfl hs2 (oneCell_bvs _) (by simp [maxLen]) (by omega) (by omega) ?_
  intro v3 w3 ho3 hG3 hat3
  have hB3 := hB2.grown hG3 hB2.size (fun k hk => by have := (ho2.lt k hk).1; simp at this; omega)
  rw [show bvs seed ++ bvs (fx 8 x) = bvs (seed ++ fx 8 x) from by simp [bvs]] at ho3
  have hz3 := hG3.size
  have hpu : Hid (bvs (seed ++ fx 8 x) ++ [.int .u8 ((j : Int) % 256)] = bvs (seed ++ fx 8 x ++ [UInt8.ofNat j])) := by
    show _ = _
    have e : (j : Int) % 256 = (((UInt8.ofNat j).toNat : Nat) : Int) := by rw [UInt8.toNat_ofNat']; omega
    rw [e]
    simp [bvs, byteV]
  go_wp2_with (with_reducible refine wp_at 18 rfl ?_)
  refine wp_on ?_
  refine wp_push (.tmp 15) (.tmp 17) 18 slB rfl rfl rfl rfl rfl (u := .int .u8 ((j : Int) % 256)) rfl rfl rfl (by simp) rfl ho3 (by simp [maxLen]) (by omega) (by omega) ?_
  intro v5 w5 ho5 hG5 hat5
  have hB5 := hB3.grown hG5 hB3.size (fun k hk => by have := (ho3.lt k hk).1; simp at this; omega)
  rw [hpu.out] at ho5
  have hr5 := Rd.of_own ho5
  go_wp2_with (fail)
  refine (rpiece_any _ (seed ++ fx 8 x ++ [UInt8.ofNat j]) _ _ hr5 (by simp [Hm.out, len_fx])).mono ?_
  rintro e w6 ⟨v6, rfl, hr6, hB6⟩
  go_wp2
  go_ret
  refine ⟨_, rfl, ?_, hB5.trans (hB6.mono hB5.size)⟩
  unfold secF
  rw [← HX.out]
  exact hr6.weak (fun b _ hb => by have := hB5.size; omega)
end Go.Proofs.YtcbojdbmfjhkiaaDoor
