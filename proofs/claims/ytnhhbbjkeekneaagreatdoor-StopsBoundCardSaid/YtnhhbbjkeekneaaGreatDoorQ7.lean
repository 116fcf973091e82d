/- Q7: several texts in one (XC Q1 Q2 Q3 Q4 Q5 Q6 Q7). -/
import Derived.Test.YtnhhbbjkeekneaaGreatDoorNT
import Derived.Test.YtnhhbbjkeekneaaGreatDoorXm
import Derived.Test.YtnhhbbjkeekneaaGreatDoorVA
import Derived.Test.YtnhhbbjkeekneaaGreatDoorRB
import Derived.Test.YtnhhbbjkeekneaaGreatDoorM1
import Derived.Deep.DeepCutAuto
import Derived.Test.YtnhhbbjkeekneaaGreatDoorN6
import Derived.Test.YtnhhbbjkeekneaaGreatDoorN8
/- XC: layer 19: the contracts of package stops but Valid and Choose, all in one place: greatest, wanted, Some, Enough, Count and nil (Xl), New, Take (Xm). -/
namespace Go.Proofs.YtnhhbbjkeekneaaGreatDoor
open Go.RowKit Go.V
theorem scount19_3 (v : Value) (M N : Nat → Prop) (ks : List (List UInt8)) (V : Vc) (W : List Nat) (w : World) (h : SX w v M N ks V W) :
    Calls Tryz.prog 18 #[v, .int .i64 3] w fun e w' => e = .returned (.int .i64 (cntW W 3 : Int)) ∧ Below w.heap.size w w' := scount19_any v M N ks V W 3 w (by omega) h
end Go.Proofs.YtnhhbbjkeekneaaGreatDoor
/- Q1: layer 7: requests; contracts of Right, formed, by the program and by the document. -/
namespace Go.V
open Go.RowKit
/-- a request: whose, its number, kind, key, A, B, its signature -/
structure Rq where
  c : Int
  s : Int
  k : Int
  y : Int
  a : Int
  b : Int
  g : List UInt8
def opV (k y a b : Int) : Value := .agg #[.int .i64 k, .int .i64 y, .int .i64 a, .int .i64 b]
def Rq.l (r : Rq) (u : Value) : List Value := [.int .i64 r.c, .int .i64 r.s, .int .i64 r.k, .int .i64 r.y, .int .i64 r.a, .int .i64 r.b, u]
def Rq.v (r : Rq) (u : Value) : Value := .agg #[.int .i64 r.c, .int .i64 r.s, .int .i64 r.k, .int .i64 r.y, .int .i64 r.a, .int .i64 r.b, u]
def rgtO (c k y a b : Int) : Bool := if c = 0 then decide (k = 6 ∧ y = 0 ∧ b = 0 ∧ 0 ≤ a ∧ a ≤ 65535) else decide (1 ≤ k ∧ k ≤ 5 ∧ 0 ≤ y ∧ y ≤ 15 ∧ ((k = 1 ∨ k = 5) → a = 0) ∧ (k = 4 ∨ b = 0))
def Rq.fm (r : Rq) : Bool := decide (0 ≤ r.c ∧ r.c ≤ 5 ∧ 1 ≤ r.s ∧ r.s ≤ 8 ∧ rgtO r.c r.k r.y r.a r.b = true ∧ r.g.length ≤ 1000)
end Go.V
namespace Go.Proofs.YtnhhbbjkeekneaaGreatDoor
open Go.RowKit Go.V
set_option maxHeartbeats 1000000 in
theorem right7_any (c k y a b : Int) (w : World) :
    Calls Tryz.prog 140 #[.int .i64 c, opV k y a b] w fun e w' => e = .returned (.bool (rgtO c k y a b)) ∧ Below w.heap.size w w' := by
  unfold opV
  have hb := Blk.new' w 124 [.int .i64 k, .int .i64 y, .int .i64 a, .int .i64 b]
  have hB : Below w.heap.size w (w.alloc (.cells #[.int .i64 k, .int .i64 y, .int .i64 a, .int .i64 b] 124)) := (Below.refl _ _).alloc (Nat.le_refl _) _
  have c0 := hb.cellAt 0 _ rfl
  have c1 := hb.cellAt 1 _ rfl
  have c2 := hb.cellAt 2 _ rfl
  have c3 := hb.cellAt 3 _ rfl
  obtain ⟨q, hq⟩ : ∃ q, q = rgtO c k y a b := ⟨_, rfl⟩
  rw [← hq]
  unfold rgtO at hq
  by_cases hc : c = 0
  · rw [if_pos hc] at hq
    have Hq := hid hq
    clear hq
    go_enter Tryz.func140, Tryz.ntmps140
    go_wp2
    all_goals (go_ret; exact ⟨by rw [Hq.out]; exact ret_b (by rw [Bool.eq_iff_iff]; simp; try omega), (Below.refl _ _).alloc (Nat.le_refl _) _⟩)
  · rw [if_neg hc] at hq
    have Hq := hid hq
    clear hq
    go_enter Tryz.func140, Tryz.ntmps140
    go_wp2
    all_goals (go_ret; refine ⟨?_, (Below.refl _ _).alloc (Nat.le_refl _) _⟩; rw [Hq.out]; refine ret_b ?_; clear Hq; simp only [beq_iff_eq, bne_iff_ne, ne_eq, beq_eq_false_iff_ne, bne_eq_false_iff_eq] at *; rw [Bool.eq_iff_iff]; simp; try omega)
end Go.Proofs.YtnhhbbjkeekneaaGreatDoor
/- Q2: layer 7: contracts of formed, by the program and by the document. -/
namespace Go.Proofs.YtnhhbbjkeekneaaGreatDoor
open Go.RowKit Go.V
theorem fm_false {r : Rq} (h : r.c < 0 ∨ 6 ≤ r.c ∨ r.s < 1 ∨ 9 ≤ r.s) : r.fm = false := by
  unfold Rq.fm
  rw [decide_eq_false_iff_not]
  omega
set_option maxHeartbeats 1000000 in
theorem formed_any (r : Rq) (u : Value) (F : Nat → Prop) (w : World) (hu : Rd w F u (bys r.g)) :
    Calls Tryz.prog 121 #[r.v u] w fun e w' => e = .returned (.bool r.fm) ∧ Below w.heap.size w w' := by
  obtain ⟨A, cp, rfl⟩ := hu.shape
  have hrt := (right7_any r.c r.k r.y r.a r.b ·)
  have hff := fm_false (r := r)
  have hf : r.fm = decide (0 ≤ r.c ∧ r.c ≤ 5 ∧ 1 ≤ r.s ∧ r.s ≤ 8 ∧ rgtO r.c r.k r.y r.a r.b = true ∧ r.g.length ≤ 1000) := rfl
  unfold opV at hrt
  unfold Rq.v
  obtain ⟨c, s, k, y, a, b, g⟩ := r
  simp only at hrt hff hf ⊢
  obtain ⟨q, hq⟩ : ∃ q, q = Rq.fm ⟨c, s, k, y, a, b, g⟩ := ⟨_, rfl⟩
  obtain ⟨t, ht⟩ : ∃ t, t = rgtO c k y a b := ⟨_, rfl⟩
  rw [← hq] at hf hff ⊢
  rw [← ht] at hrt hf
  clear hq ht
  have hb := Blk.new' w 126 [.int .i64 c, .int .i64 s, .int .i64 k, .int .i64 y, .int .i64 a, .int .i64 b, .slice A g.length cp]
  have hB : Below w.heap.size w (w.alloc (.cells #[.int .i64 c, .int .i64 s, .int .i64 k, .int .i64 y, .int .i64 a, .int .i64 b, .slice A g.length cp] 126)) := (Below.refl _ _).alloc (Nat.le_refl _) _
  have c0 := hb.cellAt 0 _ rfl
  have c1 := hb.cellAt 1 _ rfl
  have c2 := hb.cellAt 2 _ rfl
  have c3 := hb.cellAt 3 _ rfl
  have c4 := hb.cellAt 4 _ rfl
  have c5 := hb.cellAt 5 _ rfl
  have c6 := hb.cellAt 6 _ rfl
  have Hf := hid hf
  have Hff := hid hff
  clear hf hff
  go_enter Tryz.func121, Tryz.ntmps121
  go_wp2_with (fail)
  rotate_left
  all_goals try (go_ret; exact ⟨by rw [Hff.out (by omega)]; rfl, hB⟩)
  refine (hrt _).mono ?_
  rintro e w1 ⟨rfl, hB1⟩
  have hb1 := hb.below hB1
  have hB1' := hB.trans (hB1.mono hB.size)
  clear c0 c1 c2 c3 c4 c5 c6 hb hrt
  have c6 := hb1.cellAt 6 _ rfl
  cases t with
  | false =>
    go_wp2
    go_ret
    exact ⟨by rw [Hf.out]; exact ret_b (by simp), hB1'⟩
  | true =>
    go_wp2
    go_ret
    exact ⟨by rw [Hf.out]; exact ret_b (by rw [Bool.eq_iff_iff]; simp; try omega), hB1'⟩
end Go.Proofs.YtnhhbbjkeekneaaGreatDoor
/- Q3: layer 7: a request's text: contracts of Text, by the program and by the document. -/
namespace Go.V
open Go.RowKit
def in64 (x : Int) : Prop := -9223372036854775808 ≤ x ∧ x ≤ 9223372036854775807
def Rq.four (r : Rq) : List UInt8 := [UInt8.ofNat r.c.toNat, UInt8.ofNat r.s.toNat, UInt8.ofNat r.k.toNat, UInt8.ofNat r.y.toNat]
def Rq.text (r : Rq) : List UInt8 := (r.four ++ packed (foldN r.a)) ++ packed (foldN r.b)
def Rq.txt (r : Rq) : List UInt8 := if r.fm then r.text else []
theorem fm_bd {r : Rq} (h : r.fm = true) : ∃ c s k y : Nat, r.c = c ∧ r.s = s ∧ r.k = k ∧ r.y = y ∧ c ≤ 5 ∧ 1 ≤ s ∧ s ≤ 8 ∧ k ≤ 6 ∧ y ≤ 15 ∧ r.g.length ≤ 1000 := by
  unfold Rq.fm at h
  rw [decide_eq_true_iff] at h
  obtain ⟨h1, h2, h3, h4, h5, h6⟩ := h
  have hk : 0 ≤ r.k ∧ r.k ≤ 6 ∧ 0 ≤ r.y ∧ r.y ≤ 15 := by
    unfold rgtO at h5
    split at h5
    · rw [decide_eq_true_iff] at h5; omega
    · rw [decide_eq_true_iff] at h5; omega
  exact ⟨r.c.toNat, r.s.toNat, r.k.toNat, r.y.toNat, by omega, by omega, by omega, by omega, by omega, by omega, by omega, by omega, by omega, h6⟩
theorem len_four (r : Rq) : r.four.length = 4 := rfl
theorem len_text (r : Rq) : r.text.length ≤ 24 ∧ 6 ≤ r.text.length := by
  unfold Rq.text
  have h1 := psz_bd (foldN r.a)
  have h2 := psz_bd (foldN r.b)
  rw [List.length_append, List.length_append, length_packed, length_packed, len_four]
  omega
end Go.V
namespace Go.Proofs.YtnhhbbjkeekneaaGreatDoor
open Go.RowKit Go.V
theorem fix1_eq (n : Nat) (h : n < 256) : fixR 1 n = [UInt8.ofNat n] := by
  unfold fixR
  rw [if_pos (by unfold okN; omega)]
  simp [fixB, List.range_succ, Nat.mod_eq_of_lt h]
theorem four_at (c s k y : Nat) (hc : c < 256) (hs : s < 256) (hk : k < 256) (hy : y < 256) (i : Nat) (hi : i < 4) : ∃ n : Nat, n < 256 ∧ ([.int .i64 (c : Int), .int .i64 (s : Int), .int .i64 (k : Int), .int .i64 (y : Int)] : List Value)[i]? = some (.int .i64 (n : Int)) ∧
    [UInt8.ofNat c, UInt8.ofNat s, UInt8.ofNat k, UInt8.ofNat y].take (i + 1) = [UInt8.ofNat c, UInt8.ofNat s, UInt8.ofNat k, UInt8.ofNat y].take i ++ [UInt8.ofNat n] := by
  match i, hi with
  | 0, _ => exact ⟨c, hc, rfl, rfl⟩
  | 1, _ => exact ⟨s, hs, rfl, rfl⟩
  | 2, _ => exact ⟨k, hk, rfl, rfl⟩
  | 3, _ => exact ⟨y, hy, rfl, rfl⟩
set_option maxHeartbeats 1000000 in
theorem text7_any (r : Rq) (u : Value) (F : Nat → Prop) (w : World) (hu : Rd w F u (bys r.g)) (ha : in64 r.a) (hb : in64 r.b) :
    Calls Tryz.prog 123 #[r.v u] w fun e w' => ∃ v', e = .returned v' ∧ NewB w w' v' r.txt := by
  have hfm := fun W h => formed_any r u F W h
  have hbd := fm_bd (r := r)
  have htx : r.txt = if r.fm then r.text else [] := rfl
  have htt : r.text = (r.four ++ packed (foldN r.a)) ++ packed (foldN r.b) := rfl
  have hfo : r.four = [UInt8.ofNat r.c.toNat, UInt8.ofNat r.s.toNat, UInt8.ofNat r.k.toNat, UInt8.ofNat r.y.toNat] := rfl
  obtain ⟨A, cp, rfl⟩ := hu.shape
  rw [hfo] at htt
  rw [htt] at htx
  clear hfo htt
  obtain ⟨X, hX⟩ : ∃ X, X = r.txt := ⟨_, rfl⟩
  rw [← hX] at htx ⊢
  clear hX
  obtain ⟨q, hq⟩ : ∃ q, q = r.fm := ⟨_, rfl⟩
  rw [← hq] at hfm htx hbd
  clear hq
  unfold Rq.v at hfm ⊢
  obtain ⟨c, s, k, y, a, b, g⟩ := r
  dsimp only at hfm hbd htx ha hb hu ⊢
  have hvb := Blk.new' w 126 [.int .i64 c, .int .i64 s, .int .i64 k, .int .i64 y, .int .i64 a, .int .i64 b, .slice A g.length cp]
  have hB : Below w.heap.size w (w.alloc (.cells #[.int .i64 c, .int .i64 s, .int .i64 k, .int .i64 y, .int .i64 a, .int .i64 b, .slice A g.length cp] 126)) := (Below.refl _ _).alloc (Nat.le_refl _) _
  have hub := hu.below hB
  have c0 := hvb.cellAt 0 _ rfl
  have c1 := hvb.cellAt 1 _ rfl
  have c2 := hvb.cellAt 2 _ rfl
  have c3 := hvb.cellAt 3 _ rfl
  have c4 := hvb.cellAt 4 _ rfl
  have c5 := hvb.cellAt 5 _ rfl
  have c6 := hvb.cellAt 6 _ rfl
  have Htx := hid htx
  have Hbd := hid hbd
  clear htx hbd
  go_enter Tryz.func123, Tryz.ntmps123
  go_wp2_with (fail)
  refine (hfm _ hub).mono ?_
  rintro e w1 ⟨rfl, hB1⟩
  have hv1 := hvb.below hB1
  have hB1' := hB.trans (hB1.mono hB.size)
  clear c0 c1 c2 c3 c4 c5 c6 hvb hfm hub
  cases q with
  | false =>
    go_wp2
    go_ret
    exact ⟨_, rfl, by rw [Htx.out]; exact ⟨World.ownsRow_nil _ _ _ _, hB1'⟩⟩
  | true =>
    obtain ⟨C, S, K, Y, rfl, rfl, rfl, rfl, hC, _, hS, hK, hY, _⟩ := Hbd.out rfl
    have htx := Htx.out
    rw [if_pos rfl, Int.toNat_natCast, Int.toNat_natCast, Int.toNat_natCast, Int.toNat_natCast] at htx
    have h4 := four_at C S K Y (by omega) (by omega) (by omega) (by omega)
    obtain ⟨T, hT⟩ : ∃ T, T = [UInt8.ofNat C, UInt8.ofNat S, UInt8.ofNat K, UInt8.ofNat Y] := ⟨_, rfl⟩
    have hTl : T.length = 4 := by rw [hT]; rfl
    rw [← hT] at h4 htx
    clear hT Htx Hbd
    have Htx := hid htx
    clear htx
    have c0 := hv1.cellAt 0 _ rfl
    have c1 := hv1.cellAt 1 _ rfl
    have c2 := hv1.cellAt 2 _ rfl
    have c3 := hv1.cellAt 3 _ rfl
    go_wp2
    clear c0 c1 c2 c3
    go_loopw [3, 20] (fun bv iv wr => ∃ i : Nat, i ≤ 4 ∧ iv = .int .i64 i ∧ Rd wr (fun b => w.heap.size ≤ b) bv (bys (T.take i)) ∧ Below w1.heap.size w1 wr) (fun _ i _ => 4 - (intOf i).toNat)
    case atStart => exact ⟨0, Nat.zero_le _, rfl, Rd.nil _ _, Below.refl _ _⟩
    case round =>
      obtain ⟨i, hi, rfl, hrd, hBr⟩ := hrel
      have hBr' := hB1'.trans (hBr.mono hB1'.size)
      by_cases hlt : i < 4
      · obtain ⟨n, hn, hat, htk⟩ := h4 i hlt
        have hI : (i : Int) < 4 := by omega
        have hwn : IntKind.u64.wrap (n : Int) = (n : Int) := by rw [IntKind.wrap_u64]; omega
        have Hat := hid hat
        have Htk := hid htk
        clear hat htk h4
        go_wp2_with (refine wp_idx 201 (.tmp 19) (.tmp 20) rfl rfl (l := [.int .i64 (C : Int), .int .i64 (S : Int), .int .i64 (K : Int), .int .i64 (Y : Int)]) rfl rfl Tryz.underlying201 hlt (fun _ => by kernel_rfl) (by kernel_rfl) Hat.out ?_)
        refine (putx_any _ (T.take i) n 1 _ _ hrd (by omega) (by rw [List.length_take]; omega)).mono ?_
        rintro e w2 ⟨v2, rfl, ho2, hB2⟩
        rw [fix1_eq n hn, ← Htk.out] at ho2
        go_wp2
        go_roundw
        case rel => exact ⟨i + 1, by omega, by go_num, (Rd.of_own ho2).weak (fun b _ h => by have := hBr'.size; omega), hBr.trans (hB2.mono hBr.size)⟩
        case measure => simp [intOf]; omega
      · have h4' : i = 4 := by omega
        subst h4'
        have hI : ¬ (4 : Int) < 4 := by omega
        rw [show T.take 4 = T from List.take_of_length_le (by omega)] at hrd
        have hvr := hv1.below hBr
        have c4 := hvr.cellAt 4 _ rfl
        go_wp2_with (fail)
        refine (putf_any _ T a _ _ hrd ha.1 ha.2 (by omega)).mono ?_
        rintro e w2 ⟨v2, rfl, ho2, hB2⟩
        have hv2 := hvr.below hB2
        have hB2' := hBr'.trans (hB2.mono hBr'.size)
        clear c4
        have c5 := hv2.cellAt 5 _ rfl
        have hp1 := psz_bd (foldN a)
        go_wp2_with (fail)
        refine (putf_any v2 (T ++ packed (foldN a)) b _ _ (Rd.of_own ho2) hb.1 hb.2 (by rw [List.length_append, length_packed]; omega)).mono ?_
        rintro e w3 ⟨v3, rfl, ho3, hB3⟩
        go_wp2
        go_ret
        exact ⟨v3, rfl, by rw [Htx.out]; exact ⟨own_weak ho3 hB2'.size, hB2'.trans (hB3.mono hB2'.size)⟩⟩
end Go.Proofs.YtnhhbbjkeekneaaGreatDoor
/- Q4: layer 7: a request's text and bytes by the document. -/
namespace Go.V
open Go.RowKit
def Rq.bt (r : Rq) : List UInt8 := (packed r.text.length ++ r.text) ++ (packed r.g.length ++ r.g)
end Go.V
namespace Go.V
open Go.RowKit
end Go.V
namespace Go.Proofs.YtnhhbbjkeekneaaGreatDoor
open Go.RowKit Go.V
end Go.Proofs.YtnhhbbjkeekneaaGreatDoor
/- Q5: layer 7: a request's bytes: contracts of bytesOf and Put, by the program and by the document. -/
namespace Go.Proofs.YtnhhbbjkeekneaaGreatDoor
open Go.RowKit Go.V
theorem sizeQ : (Tryz.prog.info? 126).map (·.size) = some 7 := by kernel_rfl
end Go.Proofs.YtnhhbbjkeekneaaGreatDoor
/- Q6: layer 7: a request's text read: contract of readText. -/
namespace Go.Proofs.YtnhhbbjkeekneaaGreatDoor
open Go.RowKit Go.V
theorem sizeI7 : (Tryz.prog.info? 3).map (·.size) = some 1 := by kernel_rfl
theorem sizeL7 : (Tryz.prog.info? 2).map (·.size) = some 1 := by kernel_rfl
theorem sizeO : (Tryz.prog.info? 124).map (·.size) = some 4 := by kernel_rfl
theorem zeroO : (Tryz.prog.info? 124).map (·.zero) = some (some (.agg [.int .i64 0, .int .i64 0, .int .i64 0, .int .i64 0].toArray)) := by kernel_rfl
def zQ : List Value := [.int .i64 0, .int .i64 0, .int .i64 0, .int .i64 0, .int .i64 0, .int .i64 0, .slice none 0 0]
end Go.Proofs.YtnhhbbjkeekneaaGreatDoor
/- Q7: layer 7: a request read: contract of Get, over the bytes of a request that is formed. -/
namespace Go.Proofs.YtnhhbbjkeekneaaGreatDoor
open Go.RowKit Go.V
theorem zeroQ : (Tryz.prog.info? 126).map (·.zero) = some (some (.agg zQ.toArray)) := by kernel_rfl
theorem sizeSl7 : (Tryz.prog.info? 33).map (·.size) = some 1 := by kernel_rfl
theorem oneQ (r : Rq) (A : Option Addr) (n c : Nat) : ∀ v ∈ r.l (.slice A n c), v.oneCell' = true := by
  intro v hv; simp [Rq.l] at hv; rcases hv with rfl | rfl | rfl | rfl | rfl | rfl | rfl <;> rfl
end Go.Proofs.YtnhhbbjkeekneaaGreatDoor
