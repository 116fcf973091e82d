/- QE: several texts in one (QB QC QD QE). -/
import Derived.Test.YtnhhbbjkeekneaaGreatDoorM1
import Derived.Test.YtnhhbbjkeekneaaGreatDoorLW
import Derived.Test.YtnhhbbjkeekneaaGreatDoorQ7
/- QB: layer 7: contract of formedBatch. -/
namespace Go.V
open Go.RowKit
def six (A : Nat → Int) : List Value := [.int .i64 (A 0), .int .i64 (A 1), .int .i64 (A 2), .int .i64 (A 3), .int .i64 (A 4), .int .i64 (A 5)]
theorem six_at (A : Nat → Int) (C : Nat) (h : C < 6) : (six A)[C]? = some (.int .i64 (A C)) := by
  match C, h with
  | 0, _ | 1, _ | 2, _ | 3, _ | 4, _ | 5, _ => rfl
theorem six_set (A : Nat → Int) (C : Nat) (s : Int) (h : C < 6) : (six A).set C (.int .i64 s) = six (upd A C s) := by
  match C, h with
  | 0, _ | 1, _ | 2, _ | 3, _ | 4, _ | 5, _ => rfl
end Go.V
namespace Go.Proofs.YtnhhbbjkeekneaaGreatDoor
open Go.RowKit Go.V
set_option maxRecDepth 100000 in
set_option maxHeartbeats 2000000 in
theorem fbatch_any (v : Value) (l : List Rq) (F : Nat → Prop) (w : World) (hv : Rd w F v (rqs l)) :
    Calls Tryz.prog 120 #[v] w fun e w' => e = .returned (.bool (fmB l)) ∧ Below w.heap.size w w' := by
  by_cases hn : l.length < 1 ∨ 4 < l.length
  · obtain ⟨G, cp, rfl⟩ := rqs_shape hv
    have Hf := hid (fmB_len hn)
    go_enter Tryz.func120, Tryz.ntmps120
    rcases hn with hn | hn
    · have h1 : (l.length : Int) < 1 := by omega
      go_wp2
      go_ret
      exact ⟨by rw [Hf.out]; rfl, Below.refl _ _⟩
    · have h1 : ¬ (l.length : Int) < 1 := by omega
      have h2 : (4 : Int) < (l.length : Int) := by omega
      go_wp2
      go_ret
      exact ⟨by rw [Hf.out]; rfl, Below.refl _ _⟩
  have hn1 : 1 ≤ l.length := by omega
  have hn4 : l.length ≤ 4 := by omega
  obtain ⟨G, off, cp, rfl⟩ := rqs_spot hv hn1
  have h1 : ¬ (l.length : Int) < 1 := by omega
  have h2 : ¬ (4 : Int) < (l.length : Int) := by omega
  have hL0 := Blk.new' w 198 [.int .i64 0, .int .i64 0, .int .i64 0, .int .i64 0, .int .i64 0, .int .i64 0]
  have hB0 : Below w.heap.size w (w.alloc (.cells #[.int .i64 0, .int .i64 0, .int .i64 0, .int .i64 0, .int .i64 0, .int .i64 0] 198)) := (Below.refl _ _).alloc (Nat.le_refl _) _
  go_enter Tryz.func120, Tryz.ntmps120
  go_wp2
  obtain ⟨w0, hw0⟩ : ∃ x, x = w.alloc (.cells #[.int .i64 0, .int .i64 0, .int .i64 0, .int .i64 0, .int .i64 0, .int .i64 0] 198) := ⟨_, rfl⟩
  rw [← hw0] at hL0 hB0 ⊢
  clear hw0
  obtain ⟨gL, hgL⟩ : ∃ g, g = w.heap.size := ⟨_, rfl⟩
  rw [← hgL] at hL0 ⊢
  have hgl : w.heap.size ≤ gL := by omega
  clear hgL
  go_loopw [16] (fun iv wr => ∃ (i : Nat) (A : Nat → Int), i ≤ l.length ∧ iv = .int .i64 i ∧ Blk wr gL 198 (six A) ∧ good A (l.take i) ∧ ris (l.take i) ∧ (∀ x ∈ l.take i, x.fm = true) ∧ Below w.heap.size w wr) (fun i _ => l.length - (intOf i).toNat)
  case atStart => exact ⟨0, fun _ => 0, Nat.zero_le _, rfl, hL0, good_nil, List.Pairwise.nil, fun x h => by simp at h, hB0⟩
  case round =>
    obtain ⟨i, A, hi, rfl, hL, hgd, hrs, hfp, hBr⟩ := hrel
    have Hgd := hid hgd
    have Hrs := hid hrs
    have Hfp := hid hfp
    clear hgd hrs hfp
    by_cases hlt : i < l.length
    · obtain ⟨r, hr⟩ : ∃ r, l[i]? = some r := ⟨_, List.getElem?_eq_getElem hlt⟩
      have hI : (i : Int) < (l.length : Int) := by omega
      obtain ⟨u, hu7, hu⟩ := rqs_el (hv.below hBr) hr
      obtain ⟨A1, c1, rfl⟩ := hu.shape
      have Hr := hid hr
      have Htk := hid (take_snoc' hr)
      clear hr
      go_wp2_with (first | (refine wp_ixa 97 (.tmp 14) (.tmp 16) rfl rfl rfl rfl Tryz.underlying97 hlt sizeQ ?_) | (refine wp_ld 126 (.tmp 18) rfl rfl rfl hu7 Tryz.underlying126 rfl sizeQ ?_) | (refine wp_newst 126 5 (.tmp 19) rfl rfl rfl rfl rfl rfl zeroQ (l := r.l (.slice A1 r.g.length c1)) rfl rfl sizeQ (oneQ r _ _ _) (by simp [Act.put]) ?_; intro w8 hq8 hB8 hs8; refine wp_stop ?_))
      have hL8 := hL.below hB8
      have hgn : gL < wr.heap.size := hL.lt
      have hu8 := hu.below hB8
      have hB8' := hBr.trans (hB8.mono hBr.size)
      obtain ⟨gq, hgq⟩ : ∃ g, g = wr.heap.size := ⟨_, rfl⟩
      rw [← hgq] at hq8 ⊢
      rw [← hgq] at hgn
      clear hgq hL hu hu7 hB8 hs8
      refine wp_go ?_
      go_upto_region 7 with (fail)
      have HV : Hid (∀ W, Ch nob w8 W → W.rangeAt gq 0 (r.l (.slice A1 r.g.length c1))) := fun W h => (hq8.below h.below).whole
      have HC : Hid (∀ W, Ch nob w8 W → W.cell? ⟨gq, 0, none⟩ = some (.int .i64 r.c)) := fun W h => (hq8.below h.below).cellAt 0 _ rfl
      have HS : Hid (∀ W, Ch nob w8 W → W.cell? ⟨gq, 1, none⟩ = some (.int .i64 r.s)) := fun W h => (hq8.below h.below).cellAt 1 _ rfl
      cases hf : r.fm with
      | false =>
        refine wp_region_noPanic ?_
        refine wp_region_held_drew (S := Ch nob w8) (by kernel_rfl) ((Ch.refl _ _).drew) (fun hHeld => ?_)
        refine tkY 0 rfl (yieldsIf_load_mid (by rfl) 126 (.tmp 5) (by rfl) _ (0) (by rfl) _ _ (fun _ hs => HV.out _ hs) Tryz.underlying126 rfl (sizeQ)) ?_
        refine rdH 1 rfl (fun K hK => ?_)
        go_simp
        refine (formed_any r _ F _ (hu8.ext hHeld)).mono ?_
        rintro e' w11 ⟨rfl, hB11⟩
        rw [hf]
        have hC11 := hHeld.belowR hB11
        refine hK.out _ _ (hC11) (fun hHeld => ?_)
        clear hK K
        try simp only [nP]
        refine tkP 2 rfl ?_
        refine tkP 3 rfl ?_
        refine tkS 4 rfl ?_
        refine tkS 5 rfl ?_
        refine tkS 6 rfl ?_
        refine tkS 7 rfl ?_
        refine tkS 8 rfl ?_
        refine tkS 9 rfl ?_
        refine tkS 10 rfl ?_
        refine tkP 11 rfl ?_
        refine wpAnyH_done (by kernel_rfl) ?_ _
        refine NoPanic.normal ?_
        go_wp2
        go_ret
        exact ⟨by rw [fmB_fm Hr.out hf]; rfl, hB8'.trans (hC11.below.mono hB8'.size)⟩
      | true =>
        obtain ⟨C, S, K, Y, hC, hS, _, _, hC5, hS1, _, _, _, _⟩ := fm_bd hf
        have hs1 : 1 ≤ r.s := by omega
        clear hS
        have h60 : (C : Int) < 6 := by omega
        have hC6 : C < 6 := by omega
        rw [hC] at HC
        have HA : Hid (∀ W, Ch nob w8 W → W.cell? ⟨gL, C, none⟩ = some (.int .i64 (A C))) := fun W h => (hL8.below h.below).cellAt C _ (six_at A C hC6)
        by_cases hle : r.s ≤ A C
        · refine wp_region_noPanic ?_
          refine wp_region_held_drew (S := Ch nob w8) (by kernel_rfl) ((Ch.refl _ _).drew) (fun hHeld => ?_)
          refine tkY 0 rfl (yieldsIf_load_mid (by rfl) 126 (.tmp 5) (by rfl) _ (0) (by rfl) _ _ (fun _ hs => HV.out _ hs) Tryz.underlying126 rfl (sizeQ)) ?_
          refine rdH 1 rfl (fun K hK => ?_)
          go_simp
          refine (formed_any r _ F _ (hu8.ext hHeld)).mono ?_
          rintro e' w11 ⟨rfl, hB11⟩
          rw [hf]
          have hC11 := hHeld.belowR hB11
          refine hK.out _ _ (hC11) (fun hHeld => ?_)
          clear hK K
          try simp only [nP]
          refine tkP 2 rfl ?_
          refine tkP 3 rfl ?_
          refine tkP 4 rfl ?_
          refine tkF 5 rfl HS.out ?_
          refine tkP 6 rfl ?_
          refine tkF 7 rfl HC.out ?_
          refine tkP 8 rfl ?_
          refine tkF 9 rfl HA.out ?_
          refine tkP 10 rfl ?_
          refine tkP 11 rfl ?_
          refine wpAnyH_done (by kernel_rfl) ?_ _
          refine NoPanic.normal ?_
          go_wp2
          go_ret
          exact ⟨by rw [fmB_ris (i + 1) (by rw [Htk.out]; exact ris_bad Hgd.out hC (by omega) hle)]; rfl, hB8'.trans (hC11.below.mono hB8'.size)⟩
        · refine wp_region_noPanic ?_
          refine wp_region_held_drew (S := Ch nob w8) (by kernel_rfl) ((Ch.refl _ _).drew) (fun hHeld => ?_)
          refine tkY 0 rfl (yieldsIf_load_mid (by rfl) 126 (.tmp 5) (by rfl) _ (0) (by rfl) _ _ (fun _ hs => HV.out _ hs) Tryz.underlying126 rfl (sizeQ)) ?_
          refine rdH 1 rfl (fun K hK => ?_)
          go_simp
          refine (formed_any r _ F _ (hu8.ext hHeld)).mono ?_
          rintro e' w11 ⟨rfl, hB11⟩
          rw [hf]
          have hC11 := hHeld.belowR hB11
          refine hK.out _ _ (hC11) (fun hHeld => ?_)
          clear hK K
          try simp only [nP]
          refine tkP 2 rfl ?_
          refine tkP 3 rfl ?_
          refine tkP 4 rfl ?_
          refine tkF 5 rfl HS.out ?_
          refine tkP 6 rfl ?_
          refine tkF 7 rfl HC.out ?_
          refine tkP 8 rfl ?_
          refine tkF 9 rfl HA.out ?_
          refine tkP 10 rfl ?_
          refine tkP 11 rfl ?_
          refine wpAnyH_done (by kernel_rfl) ?_ _
          refine NoPanic.normal ?_
          have hq9 := hq8.below hC11.below
          have hL9 := hL8.below hC11.below
          have hB9 := hB8'.trans (hC11.below.mono hB8'.size)
          have e0 : w11.cell? ⟨gq, 0, none⟩ = some (.int .i64 (C : Int)) := HC.out w11 hC11
          have e1 := hq9.cellAt 1 _ rfl
          clear HV HC HS HA
          have Hst := hid (six_set A C r.s hC6)
          go_wp2_with (refine wp_st1 3 (.tmp 36) (.tmp 35) rfl rfl rfl (f := C) rfl (v := .int .i64 r.s) rfl hL9 (by simp [six]; omega) sizeI7 rfl rfl ?_; intro w10 hL10 hG10; rw [Hst.out] at hL10)
          go_roundw
          case rel =>
            refine ⟨i + 1, upd A C r.s, by omega, by go_num, hL10, ?_, ?_, ?_, hB9.grown hG10 hB9.size (by intro k hk; injection hk with hk; omega)⟩
            · rw [Htk.out]; exact good_snoc Hgd.out hC (by omega)
            · rw [Htk.out]; exact ris_good Hgd.out Hrs.out hC (by omega)
            · rw [Htk.out]
              intro x hx
              rw [List.mem_append] at hx
              rcases hx with hx | hx
              · exact Hfp.out x hx
              · simp at hx; rw [hx]; exact hf
          case measure => simp [intOf]; omega
    · have hi' : i = l.length := by omega
      subst hi'
      have hI : ¬ (l.length : Int) < (l.length : Int) := by omega
      have hrs := Hrs.out
      have hfp := Hfp.out
      rw [List.take_length] at hrs hfp
      have Hfm := hid (fmB_true hn1 hn4 hfp hrs)
      clear hrs hfp
      go_wp2
      go_ret
      exact ⟨by rw [Hfm.out]; rfl, hBr⟩
end Go.Proofs.YtnhhbbjkeekneaaGreatDoor
/- QC: layer 7: contract of the document's FormedBatch. -/
namespace Go.Proofs.YtnhhbbjkeekneaaGreatDoor
open Go.RowKit Go.V
end Go.Proofs.YtnhhbbjkeekneaaGreatDoor
/- QD: layer 7: contracts of PutBatch, by the program and by the document. -/
namespace Go.V
open Go.RowKit
def Rq.tb (r : Rq) : List UInt8 := packed r.bt.length ++ r.bt
def bB (l : List Rq) : List UInt8 := packed l.length ++ l.flatMap Rq.tb
end Go.V
namespace Go.Proofs.YtnhhbbjkeekneaaGreatDoor
open Go.RowKit Go.V
end Go.Proofs.YtnhhbbjkeekneaaGreatDoor
/- QE: layer 7: contract of GetBatch, over the bytes of a batch that is formed. -/
namespace Go.V
open Go.RowKit
theorem own_keep7 {w w' : World} {base : Nat} {e : TypeId} {s : Nat} {v : Value} {n : Nat} {xs : List Value} (h : w.ownsRow base e s v n xs) (hk : ∀ k, k < w.heap.size → v.ownBlock = some k → w'.heap[k]? = w.heap[k]?) : w'.ownsRow base e s v n xs := by
  obtain ⟨h1, h2⟩ := h
  refine ⟨h1, ?_⟩
  rcases h2 with h | ⟨g, cap, cur, rfl, hg, hh, h3⟩
  · exact .inl h
  · exact .inr ⟨g, cap, cur, rfl, hg, (hk g (lt_of_block hh) rfl).trans hh, h3⟩
end Go.V
namespace Go.Proofs.YtnhhbbjkeekneaaGreatDoor
open Go.RowKit Go.V
theorem slQ : SlW Tryz.prog 97 126 zQ 7 72 := .of Tryz.underlying97 (by kernel_rfl) rfl (by omega) (by omega)
end Go.Proofs.YtnhhbbjkeekneaaGreatDoor
