/- K3: several texts in one (QJ O1 O2 O3 K1 T6 K2 K3). -/
import Derived.Test.YtnhhbbjkeekneaaGreatDoorQI
import Derived.Test.YtnhhbbjkeekneaaGreatDoorQE
import Derived.Test.YtnhhbbjkeekneaaGreatDoorSA
import Derived.Test.YtnhhbbjkeekneaaGreatDoorVA
import Derived.Test.YtnhhbbjkeekneaaGreatDoorM1
import Derived.IntWalk
import Derived.Test.YtnhhbbjkeekneaaGreatDoorT5
import Derived.Lib.SlBytesConst
import Derived.Stop.BytesEq
/- QJ: layer 7: a batch read of any bytes: contract of GetBatch. -/
namespace Go.Proofs.YtnhhbbjkeekneaaGreatDoor
open Go.RowKit Go.V
/-- what a reading of a batch answers -/
def GbQ (w : World) (r : Except Nat (List Rq)) (e : Ending) (w' : World) : Prop := match r with
  | .ok l => ∃ u, e = .returned (.tuple #[u, .int .i64 0]) ∧ Rd w' (fun b => w.heap.size ≤ b) u (rqs l) ∧ Below w.heap.size w w'
  | .error er => e = .returned (.tuple #[.slice none 0 0, .int .i64 (er : Int)]) ∧ Below w.heap.size w w'
theorem GbQ.err {w w' : World} {r : Except Nat (List Rq)} {er : Nat} (h : r = .error er) (hB : Below w.heap.size w w') : GbQ w r (.returned (.tuple #[.slice none 0 0, .int .i64 (er : Int)])) w' := by rw [h]; exact ⟨rfl, hB⟩
theorem gtR7_pos {X : List UInt8} {e : Nat} (h : gtR7 X = .error e) : e ≠ 0 := by
  unfold gtR7 at h
  split at h
  · rename_i hq
    injection h with h
    subst h
    exact textR_pos hq
  · split at h
    · rename_i hq
      injection h with h
      subst h
      exact txtR_pos hq
    · split at h
      · rename_i hq
        injection h with h
        subst h
        exact textR_pos hq
      · split at h
        · injection h with h; omega
        · split at h
          · cases h
          · injection h with h; omega
theorem cntR_pos {X : List UInt8} {most : Int} {e : Nat} (h : cntR most (readPk X) = .error e) : e ≠ 0 := by
  cases hr : readPk X with
  | error e' =>
    have := rdF_err _ _ _ _ hr
    rw [hr] at h
    simp only [cntR] at h
    injection h with h
    omega
  | ok r =>
    obtain ⟨x, n⟩ := r
    rw [hr] at h
    simp only [cntR] at h
    split at h
    · injection h with h; omega
    · cases h
theorem cntR_le {X : List UInt8} {c z : Nat} {most : Nat} (h : cntR (most : Int) (readPk X) = .ok (c, z)) : c ≤ most := by
  cases hr : readPk X with
  | error e' =>
    rw [hr] at h
    simp only [cntR] at h
    cases h
  | ok r =>
    obtain ⟨x, n⟩ := r
    rw [hr] at h
    simp only [cntR] at h
    split at h
    · cases h
    · rename_i hc
      injection h with h
      injection h with h1 _
      omega
set_option maxRecDepth 100000 in
set_option maxHeartbeats 4000000 in
theorem gtBatch7_any (v : Value) (X : List UInt8) (F : Nat → Prop) (w : World) (hv : Rd w F v (bys X)) (hXl : X.length ≤ 1000000) :
    Calls Tryz.prog 88 #[v] w (GbQ w (gbR7 X)) := by
  have hT : gbR7 X = match cntR 4 (readPk X) with
    | .error e => .error e
    | .ok (c, z) => match itR X z c with
      | .error e => .error e
      | .ok (l, k) => if k < X.length then .error 2 else if fmB l = true then .ok l else .error 15 := rfl
  obtain ⟨T, hTT⟩ : ∃ T, T = gbR7 X := ⟨_, rfl⟩
  rw [← hTT] at hT ⊢
  clear hTT
  obtain ⟨A, cp, rfl⟩ := hv.shape
  have Htt := hid hT
  have Hcl := hid (fun (c z : Nat) (h : cntR 4 (readPk X) = .ok (c, z)) => cntR_le (most := 4) h)
  clear hT
  go_enter Tryz.func88, Tryz.ntmps88
  go_wp2_with (fail)
  refine (new_any _ X F _ hv (by omega)).mono ?_
  rintro e w1 ⟨p, rfl, hp, hr1, hB1⟩
  have hpl : p < w1.heap.size := by obtain ⟨_, h, _⟩ := hr1; exact lt_of_block h
  obtain ⟨FF, hFF⟩ : ∃ FF, FF = fun b => w.heap.size ≤ b ∧ b < p := ⟨_, rfl⟩
  rw [← hFF] at hr1
  have hFp : ∀ b, FF b → b < p := fun b h => by rw [hFF] at h; exact h.2
  clear hFF
  have f1 := count_any p FF X 0 4 w1 hr1 (by omega) (by omega)
  rw [List.drop_zero] at f1
  cases hq1 : cntR 4 (readPk X) with
  | error e =>
    have hep := cntR_pos hq1
    have hne : ((e : Int) != 0) = true := by rw [bne_iff_ne]; omega
    rw [hq1] at f1
    have Ht : Hid (T = .error e) := hid (by rw [Htt.out, hq1])
    have Hf := hid f1
    clear f1 hr1 hq1 hep Htt
    go_wp2_with (fail)
    refine Hf.out.mono ?_
    rintro e' w2 ⟨rfl, hr2, hC2⟩
    have hB2 := Ch.below_of hB1 hC2 (fun k hk => by have : k = p := hk; omega) hB1.size
    simp only [eCt]
    clear hr2 hC2
    go_wp2
    go_ret2
    exact GbQ.err Ht.out hB2
  | ok cz =>
  obtain ⟨n, z⟩ := cz
  have hn4 := Hcl.out n z hq1
  rw [hq1] at f1
  have hT1 := Htt.out
  rw [hq1] at hT1
  dsimp only [lenP] at f1 hT1
  have Htt := hid hT1
  have Hf := hid f1
  clear f1 hr1 hq1 hT1 Hcl
  go_wp2_with (fail)
  refine Hf.out.mono ?_
  rintro e w2 ⟨rfl, hr2, hC2⟩
  have hB2 := Ch.below_of hB1 hC2 (fun k hk => by have : k = p := hk; omega) hB1.size
  simp only [eCt]
  rw [Nat.zero_add] at hr2
  have hpl2 : p < w2.heap.size := by obtain ⟨_, h, _⟩ := hr2; exact lt_of_block h
  clear Hf
  go_wp2_with (refine wp_mk0W slQ (.const (.int .i64 0)) (.tmp 22) rfl rfl n rfl rfl (by omega) (by simp only [maxLen]; omega) ?_; intro w3 ho3 hB3; refine wp_stop ?_)
  have hr3 := hr2.belowR hB3
  have hB3' := hB2.trans (hB3.mono hB2.size)
  obtain ⟨gz, hgz⟩ : ∃ g, g = w2.heap.size := ⟨_, rfl⟩
  rw [← hgz] at ho3 hpl2 ⊢
  have hgw : w.heap.size ≤ gz := by have := hB2.size; omega
  have hgz3 : gz ≤ w3.heap.size := by have := hB3.size; omega
  clear hgz hr2 hB3
  refine wp_go ?_
  go_wp2
  go_loopw [7, 25] (fun lv iv wr => ∃ (i k : Nat) (l : List Rq) (xs : List Value), i ≤ n ∧ iv = .int .i64 i ∧ Hid (itR X z i = .ok (l, k)) ∧ RdR wr p FF X k ∧ wr.ownsRow gz 126 7 lv l.length xs ∧ RqX wr (fun b => gz ≤ b ∧ lv.ownBlock ≠ some b) l xs ∧ gz ≤ wr.heap.size ∧ Below w.heap.size w wr) (fun _ i _ => n - (intOf i).toNat)
  case atStart => exact ⟨0, z, [], [], Nat.zero_le _, rfl, rfl, hr3, ho3, rfl, hgz3, hB3'⟩
  case round =>
    clear hr3 ho3 hB3'
    obtain ⟨i, k, l, xs, hi, rfl, hit, hrr, hor, hxr, hgr, hBr⟩ := hrel
    have hll := it_len hit.out
    by_cases hlt : i < n
    · have hI : (i : Int) < (n : Int) := by omega
      have hone : oneR X l k = match textR 2000 (X.drop k) with
        | .error e => .error e
        | .ok (n, z) => match gtR7 (((X.drop k).drop z).take n) with
          | .error e => .error e
          | .ok r => .ok (l ++ [r], k + (z + n)) := rfl
      have hnx := it_next hit.out
      rw [hone] at hnx
      have t1 := text_any p FF X k 2000 wr hrr (by omega) (by omega) (by omega)
      cases hq2 : textR 2000 (X.drop k) with
      | error e =>
        have hep := textR_pos hq2
        have hne : ((e : Int) != 0) = true := by rw [bne_iff_ne]; omega
        rw [hq2] at t1 hnx
        have Ht : Hid (T = .error e) := hid (by rw [Htt.out, it_err hnx n (by omega)])
        unfold TextPost at t1
        have Hp := hid t1
        clear t1 hq2 hrr hep hnx hone Htt hit
        go_wp2_with (fail)
        refine Hp.out.mono ?_
        rintro e' w5 ⟨rfl, hr5, hC5⟩
        have hB5 := Ch.below_of hBr hC5 (fun k hk => by have : k = p := hk; omega) hBr.size
        clear hr5 hC5 Hp hor hxr
        go_wp2
        go_ret2
        exact GbQ.err Ht.out hB5
      | ok ny =>
        obtain ⟨m, y⟩ := ny
        rw [hq2] at t1 hnx
        unfold TextPost at t1
        dsimp only at t1 hnx
        obtain ⟨Y, hY⟩ : ∃ Y, Y = ((X.drop k).drop y).take m := ⟨_, rfl⟩
        rw [← hY] at t1 hnx
        have hYl : Y.length ≤ 1000000 := by rw [hY, List.length_take, List.length_drop, List.length_drop]; omega
        have hYm : Y.length = m ∨ True := .inr trivial
        have Ht1 := hid t1
        clear t1 hrr hq2 hY hone hYm
        go_wp2_with (fail)
        refine Ht1.out.mono ?_
        rintro e w5 ⟨v5, rfl, hv5, hr5, hC5⟩
        obtain ⟨A5, c5, rfl⟩ := hv5.shape
        have ho5 := own_keep7 hor (fun k hk h => hC5.block k hk (by intro h'; have : k = p := h'; have := (hor.lt k h).1; omega))
        have hx5 := hxr.keep (fun b hb hF => ⟨hF, hC5.block b hb (by intro h'; have : b = p := h'; have := hF.1; omega)⟩)
        have hB5 := Ch.below_of hBr hC5 (fun k hk => by have : k = p := hk; omega) hBr.size
        have hg5 : gz ≤ w5.heap.size := by have := hC5.size; omega
        have hge := gtReq7_any (.slice A5 Y.length c5) Y _ w5 hv5 hYl
        clear Ht1 hor hxr
        cases hq3 : gtR7 Y with
        | error e =>
          have hep := gtR7_pos hq3
          have hne : ((e : Int) != 0) = true := by rw [bne_iff_ne]; omega
          rw [hq3] at hge hnx
          have Ht : Hid (T = .error e) := hid (by rw [Htt.out, it_err hnx n (by omega)])
          unfold GtQ at hge
          have Hge := hid hge
          clear hge hq3 hep hnx Htt hit
          go_wp2_with (fail)
          refine Hge.out.mono ?_
          rintro e' w6 ⟨rfl, hB6⟩
          have hB6' := hB5.trans (hB6.mono hB5.size)
          clear Hge hr5 ho5 hx5 hv5 hB6
          go_wp2_with (refine wp_newst 126 10 (.tmp 38) rfl rfl rfl rfl rfl rfl zeroQ (l := zQ) rfl rfl sizeQ zQ_one (by simp) ?_; intro w7 hq7 hB7 hs7; refine wp_stop ?_)
          have hB7' := hB6'.trans (hB7.mono hB6'.size)
          clear hB7 hq7 hs7
          refine wp_go ?_
          go_wp2
          go_ret2
          exact GbQ.err Ht.out hB7'
        | ok r =>
          rw [hq3] at hge hnx
          unfold GtQ at hge
          dsimp only at hge hnx
          have Hge := hid hge
          have Hnx := hid hnx
          clear hge hq3 hnx hit
          go_wp2_with (fail)
          refine Hge.out.mono ?_
          rintro e w6 ⟨u6, rfl, hu6, hB6⟩
          obtain ⟨A6, c6, rfl⟩ := hu6.shape
          have hr6 := hr5.belowR hB6
          have ho6 := own_bel ho5 hB6
          have hx6 := hx5.keep (fun b hb hF => ⟨hF, hB6.block b hb⟩)
          have hB6' := hB5.trans (hB6.mono hB5.size)
          have hlv := fun k hk => (ho5.lt k hk).2
          clear hr5 ho5 hx5 hv5 Hge
          go_wp2_with (refine wp_newst 126 10 (.tmp 38) rfl rfl rfl rfl rfl rfl zeroQ (l := r.l (.slice A6 r.g.length c6)) rfl rfl sizeQ (oneQ r _ _ _) (by simp) ?_; intro w7 hq7 hB7 hs7; refine wp_stop ?_)
          have hr7 := hr6.belowR hB7
          have ho7 := own_bel ho6 hB7
          have hx7 := hx6.keep (fun b hb hF => ⟨hF, hB7.block b hb⟩)
          have hu7 := hu6.below hB7
          have hB7' := hB6'.trans (hB7.mono hB6'.size)
          have hg7 : gz ≤ w7.heap.size := by have := hB7.size; have := hB6.size; omega
          obtain ⟨gq, hgq⟩ : ∃ g, g = w6.heap.size := ⟨_, rfl⟩
          rw [← hgq] at hq7 ⊢
          clear hgq hr6 ho6 hx6 hu6 hB7 hs7
          refine wp_go ?_
          go_wp2_with (first | (refine wp_ld 126 (.tmp 10) rfl rfl rfl hq7.whole Tryz.underlying126 rfl sizeQ ?_) | (refine wp_pushW (.tmp 43) (.tmp 44) 45 slQ rfl rfl rfl rfl rfl (us := r.l (.slice A6 r.g.length c6)) rfl rfl (oneQ r _ _ _) (by simp [Act.put]) rfl ho7 (by simp only [maxLen]; omega) (by omega) hg7 ?_; intro v8 w8 ho8 hG8 hat8; refine wp_stop ?_))
          have hB8 := hB7'.grown hG8 hB7'.size (fun k hk => by have := (ho7.lt k hk).1; omega)
          have hr8 : RdR w8 p FF X (k + (y + m)) := by
            obtain ⟨_, hpb, _⟩ := id hr7
            exact RdR.keep hr7 (hG8.block _ (lt_of_block hpb) (by intro h; have := (ho7.lt p h.symm).1; omega)) (fun b hb hF => hG8.block _ hb (by intro h; have := (ho7.lt b h.symm).1; have := hFp b hF; omega))
          have hx8 : RqX w8 (fun b => gz ≤ b ∧ v8.ownBlock ≠ some b) (l ++ [r]) (xs ++ r.l (.slice A6 r.g.length c6)) := by
            refine RqX.snoc ?_ ?_
            · exact hu7.keep (fun b hb hF => ⟨⟨by omega, by
                rcases hat8 with h | ⟨k, h, hk⟩
                · rw [h]; intro h'; have := hlv b h'; omega
                · rw [h]; intro h'; injection h' with h'; omega⟩, hG8.block b hb (by intro h'; have := hlv b h'.symm; omega)⟩)
            · exact hx7.keep (fun b hb hF => ⟨⟨hF.1, by
                rcases hat8 with h | ⟨k, h, hk⟩
                · rw [h]; exact hF.2
                · rw [h]; intro h'; injection h' with h'; omega⟩, hG8.block b hb (fun h' => hF.2 h'.symm)⟩)
          have ho8 : w8.ownsRow gz 126 7 v8 (l ++ [r]).length (xs ++ r.l (.slice A6 r.g.length c6)) := by rw [List.length_append]; exact ho8
          clear hr7 hx7 hu7 ho7
          refine wp_go ?_
          go_wp2
          go_roundw
          case rel =>
            refine ⟨i + 1, k + (y + m), l ++ [r], _, by omega, by go_num, Hnx, hr8, ho8, hx8, by have := hG8.size; omega, hB8⟩
          case measure => simp [intOf]; omega
    · have hi' : i = n := by omega
      subst hi'
      have hI : ¬ (i : Int) < (i : Int) := by omega
      have hT2 := Htt.out
      rw [hit.out] at hT2
      dsimp only at hT2
      have hbt := fun u F W h => fbatch_any u l F W h
      have f1 := done_any p _ X _ _ hrr
      have hrd := (rqs_own hor hxr (fun b h => h.1)).ext (Ch.refl nob wr)
      clear hor hxr Htt hit
      by_cases hlo : k < X.length
      · rw [if_pos hlo] at f1 hT2
        have Ht := hid hT2
        have Hf := hid f1
        clear f1 hrr hT2 hbt hrd
        go_wp2_with (fail)
        refine Hf.out.mono ?_
        rintro e _ ⟨rfl, nn, rfl⟩
        have hB5 := Go.below_drewN hBr nn
        go_wp2
        go_ret2
        exact GbQ.err Ht.out hB5
      rw [if_neg hlo] at f1 hT2
      obtain ⟨q, hq⟩ : ∃ q, q = fmB l := ⟨_, rfl⟩
      rw [← hq] at hT2 hbt
      have Ht := hid hT2
      have Hf := hid f1
      clear f1 hrr hT2 hq
      go_wp2_with (fail)
      refine Hf.out.mono ?_
      rintro e _ ⟨rfl, nn, rfl⟩
      have hrd := hrd.ext ((Ch.refl nob wr).drewN nn)
      have hB5 := Go.below_drewN hBr nn
      go_wp2_with (fail)
      refine (hbt _ _ _ hrd).mono ?_
      rintro e w6 ⟨rfl, hB6⟩
      have hrd := hrd.below hB6
      have hB6' := hB5.trans (hB6.mono hB5.size)
      cases q with
      | true =>
        have Ht2 : Hid (T = .ok l) := hid (Ht.out.trans (if_pos rfl))
        clear Ht
        go_wp2
        go_ret2
        rw [Ht2.out]
        exact ⟨_, rfl, hrd.weak (fun b _ h => Nat.le_trans hgw h), hB6'⟩
      | false =>
        have Ht2 : Hid (T = .error 15) := hid (Ht.out.trans (if_neg (by simp)))
        clear Ht
        go_wp2
        go_ret2
        exact GbQ.err Ht2.out hB6'
end Go.Proofs.YtnhhbbjkeekneaaGreatDoor
/- O1: layer 4: pieces, chains and digits as list functions; contracts of the document's Piece, Walk, Secret. -/
namespace Go.V
open Go.RowKit
def pieceF (t : List UInt8) : List UInt8 := (shaF t).take 16
/-- k steps of chain j from step f on -/
def walkF (p : List UInt8) (j f : Nat) : Nat → List UInt8
  | 0 => p
  | k + 1 => pieceF (walkF p j f k ++ [UInt8.ofNat j, UInt8.ofNat (f + k)])
end Go.V
namespace Go.Proofs.YtnhhbbjkeekneaaGreatDoor
open Go.RowKit Go.V
theorem len_piece (t : List UInt8) : (pieceF t).length = 16 := by unfold pieceF; rw [List.length_take, len_sha]; rfl
theorem len_walk (p : List UInt8) (j f : Nat) (hp : p.length = 16) : ∀ k, (walkF p j f k).length = 16
  | 0 => hp
  | _ + 1 => len_piece _
end Go.Proofs.YtnhhbbjkeekneaaGreatDoor
/- O2: layer 4: digits; contract of the document's Digits. -/
namespace Go.V
open Go.RowKit
/-- the higher and the lower four bits of each byte -/
def nibF (h : List UInt8) : List Nat := h.flatMap fun b => [b.toNat / 16, b.toNat % 16]
/-- what they leave from 15 -/
def lackF : List UInt8 → Nat
  | [] => 0
  | b :: h => (15 - b.toNat / 16) + (15 - b.toNat % 16) + lackF h
def digF (h : List UInt8) : List Nat := nibF (h.take 16) ++ [lackF (h.take 16) / 256, lackF (h.take 16) / 16 % 16, lackF (h.take 16) % 16]
theorem len_nib (h : List UInt8) : (nibF h).length = 2 * h.length := by
  induction h with
  | nil => rfl
  | cons b h ih => simp only [nibF, List.flatMap_cons, List.length_append, List.length_cons, List.length_nil] at ih ⊢; omega
theorem lack_le (h : List UInt8) : lackF h ≤ 30 * h.length := by
  induction h with
  | nil => simp [lackF]
  | cons b h ih => simp only [lackF, List.length_cons]; omega
theorem len_dig (h : List UInt8) (hl : 16 ≤ h.length) : (digF h).length = 35 := by
  unfold digF
  rw [List.length_append, len_nib, List.length_take]
  simp
  omega
theorem nib_snoc (h : List UInt8) (b : UInt8) : nibF (h ++ [b]) = nibF h ++ [b.toNat / 16, b.toNat % 16] := by simp [nibF]
theorem nib_lt (h : List UInt8) : ∀ n ∈ nibF h, n ≤ 15 := by
  intro n hn
  unfold nibF at hn
  obtain ⟨b, _, hb⟩ := List.mem_flatMap.1 hn
  have := b.toNat_lt
  simp at hb
  rcases hb with rfl | rfl <;> omega
theorem dig_le (h : List UInt8) : ∀ n ∈ digF h, n ≤ 15 := by
  intro n hn
  have hl := lack_le (h.take 16)
  have hl2 : (h.take 16).length ≤ 16 := List.length_take_le _ _
  unfold digF at hn
  rcases List.mem_append.1 hn with h1 | h1
  · exact nib_lt _ n h1
  · simp at h1
    rcases h1 with rfl | rfl | rfl <;> omega
theorem take_step (h : List UInt8) (i : Nat) (x : UInt8) (hx : h[i]? = some x) : h.take (i + 1) = h.take i ++ [x] := by
  obtain ⟨hi, he⟩ := List.getElem?_eq_some_iff.1 hx
  rw [List.take_succ_eq_append_getElem hi, he]
end Go.V
namespace Go.Proofs.YtnhhbbjkeekneaaGreatDoor
open Go.RowKit Go.V
end Go.Proofs.YtnhhbbjkeekneaaGreatDoor
/- O3: layer 4: contracts of the document's Public, Sign, Recover. -/
namespace Go.V
open Go.RowKit
/-- n pieces, one behind the other -/
def catF (f : Nat → List UInt8) (n : Nat) : List UInt8 := (List.range n).flatMap f
theorem cat_succ (f : Nat → List UInt8) (n : Nat) : catF f (n + 1) = catF f n ++ f n := by simp [catF, List.range_succ]
def recF (text sig : List UInt8) : List UInt8 := shaF (catF (fun j => walkF ((sig.drop (16 * j)).take 16) j ((digF (shaF text)).getD j 0) (15 - (digF (shaF text)).getD j 0)) 35)
end Go.V
namespace Go.Proofs.YtnhhbbjkeekneaaGreatDoor
open Go.RowKit Go.V
theorem len_rec (text sig : List UInt8) : (recF text sig).length = 32 := len_sha _
def recE (sig : List UInt8) : Int := if sig.length = 560 then 0 else 2
def recH (text sig : List UInt8) : List UInt8 := if sig.length = 560 then recF text sig else List.replicate 32 0
theorem zs8_bvs (n : Nat) : zs8 n = bvs (List.replicate n 0) := by simp [zs8, bvs, byteV]
end Go.Proofs.YtnhhbbjkeekneaaGreatDoor
/- K1: layer 5: the tree as a list; contract of the document's Tree. -/
namespace Go.V
end Go.V
namespace Go.Proofs.YtnhhbbjkeekneaaGreatDoor
open Go.RowKit Go.V
end Go.Proofs.YtnhhbbjkeekneaaGreatDoor
/- T6: layer 3: contract of the document's Derive; the law MacDerive. -/
namespace Go.Proofs.YtnhhbbjkeekneaaGreatDoor
open Go.RowKit Go.V
end Go.Proofs.YtnhhbbjkeekneaaGreatDoor
/- K2: layer 5: contracts of the document's Beside, Sign, Seed. -/
namespace Go.V
open Go.RowKit
def frmF (i : Nat) : Nat := [0, 8, 12, 14].getD i 0
/-- whoever stands beside the i-th step of the way up from leaf k -/
def besI (k i : Nat) : Nat := if k / 2 ^ i % 2 = 0 then frmF i + k / 2 ^ i + 1 else frmF i + k / 2 ^ i - 1
theorem bes_lt (k i : Nat) (hk : k ≤ 7) (hi : i < 3) : besI k i < 15 := by
  obtain rfl | rfl | rfl : i = 0 ∨ i = 1 ∨ i = 2 := by omega
  · simp [besI, frmF]; split <;> omega
  · simp [besI, frmF]; split <;> omega
  · simp [besI, frmF]; split <;> omega
end Go.V
namespace Go.Proofs.YtnhhbbjkeekneaaGreatDoor
open Go.RowKit Go.V
end Go.Proofs.YtnhhbbjkeekneaaGreatDoor
/- K3: layer 5: contracts of the document's Seed and Verify. -/
namespace Go.V
open Go.RowKit
/-- the way up from leaf k: i steps -/
def upF (h : List UInt8) (sig : List UInt8) (k : Nat) : Nat → List UInt8
  | 0 => h
  | i + 1 => if k / 2 ^ i % 2 = 0 then shaF (upF h sig k i ++ (sig.drop (561 + 32 * i)).take 32) else shaF ((sig.drop (561 + 32 * i)).take 32 ++ upF h sig k i)
def leafOf (sig : List UInt8) : Nat := (sig.getD 0 0).toNat
def topF (text sig : List UInt8) : List UInt8 := upF (recF text ((sig.drop 1).take 560)) sig (leafOf sig) 3
def okSig (sig : List UInt8) : Prop := sig.length = 657 ∧ leafOf sig ≤ 7
instance (sig : List UInt8) : Decidable (okSig sig) := by unfold okSig; infer_instance
/-- what Verify tells: the leaf, the error -/
def verN (root text sig : List UInt8) : Int := if okSig sig then (if topF text sig = root then (leafOf sig : Int) else 0) else 0
def verE (root text sig : List UInt8) : Int := if okSig sig then (if topF text sig = root then 0 else 5) else 2
end Go.V
namespace Go.Proofs.YtnhhbbjkeekneaaGreatDoor
open Go.RowKit Go.V
theorem len_up (h sig : List UInt8) (k : Nat) (hh : h.length = 32) : ∀ i, (upF h sig k i).length = 32
  | 0 => hh
  | i + 1 => by rw [upF]; split <;> exact len_sha _
end Go.Proofs.YtnhhbbjkeekneaaGreatDoor
