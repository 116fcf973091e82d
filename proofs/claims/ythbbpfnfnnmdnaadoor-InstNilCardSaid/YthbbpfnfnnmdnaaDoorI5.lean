/- I5: layer 1: the document's reading of a text. -/
import Derived.Test.YthbbpfnfnnmdnaaDoorI4
namespace Go.Proofs.YthbbpfnfnnmdnaaDoor
open Go.RowKit Go.V
def RtPost (w : World) (bs : List UInt8) (k : Nat) (r : Except Nat (Nat × Nat)) (e : Ending) (w' : World) : Prop := match r with
  | .ok (n, sz) => ∃ v, e = .returned (.agg (gotL 0 v (sz + n) 0).toArray) ∧ Rd w' (fun b => w.heap.size ≤ b) v (bys (((bs.drop k).drop sz).take n)) ∧ Below w.heap.size w w'
  | .error er => e = .returned (.agg (gotL 0 (.slice none 0 0) 0 er).toArray) ∧ Below w.heap.size w w'
theorem cnt_err {most : Int} {r : Except Nat (Nat × Nat)} {e : Nat} (h : cntR most r = .error e) (hr : ∀ e, r = .error e → e = 1 ∨ e = 2) : 1 ≤ e ∧ e ≤ 3 := by
  cases r with
  | error e2 =>
    have h : Except.error e2 = Except.error e := h
    injection h with h
    subst h
    have := hr e2 rfl
    omega
  | ok p =>
    obtain ⟨x, n⟩ := p
    unfold cntR at h
    dsimp only at h
    split at h
    · injection h with h; omega
    · cases h
theorem cnt_ok {most : Int} {bs : List UInt8} {n sz : Nat} (h : cntR most (readPk bs) = .ok (n, sz)) : (n : Int) ≤ most ∧ sz ≤ bs.length := by
  cases hr : readPk bs with
  | error e => rw [hr] at h; cases h
  | ok p =>
    obtain ⟨x, m⟩ := p
    rw [hr] at h
    unfold cntR at h
    dsimp only at h
    split at h
    · cases h
    · injection h with h
      injection h with h1 h2
      subst h1 h2
      exact ⟨by omega, (packed_readPk hr).2.2⟩
set_option maxRecDepth 100000 in
set_option maxHeartbeats 8000000 in
theorem rtext_any (v : Value) (bs : List UInt8) (k most : Nat) (F : Nat → Prop) (w : World) (h : Rd w F v (bys bs)) (hk : k ≤ bs.length) (hl : bs.length ≤ 1000000000000) (hm : most ≤ 1000000000000) :
    Calls Tryd.prog 84 #[v, .int .i64 (k : Int), .int .i64 (most : Int)] w (RtPost w bs k (textR most (bs.drop k))) := by
  obtain ⟨A, c, rfl⟩ := h.shape
  have hB0 : Below w.heap.size w (w.alloc (.cells (gotL 0 (.slice none 0 0) 0 0).toArray 143)) := (Below.refl _ _).alloc (Nat.le_refl _) _
  have bz := Blk.new' w 143 (gotL 0 (.slice none 0 0) 0 0)
  have h0 := h.below hB0
  go_enter Tryd.func84, Tryd.ntmps84
  go_wp2_with (first | (refine wp_new 143 rfl rfl zeroGot ?_; refine wp_stop ?_))
  obtain ⟨w0, hw0⟩ : ∃ w0, w0 = w.alloc (.cells (gotL 0 (.slice none 0 0) 0 0).toArray 143) := ⟨_, rfl⟩
  obtain ⟨g, hg⟩ : ∃ g, g = w.heap.size := ⟨_, rfl⟩
  rw [← hw0] at bz h0 hB0 ⊢
  rw [← hg] at bz ⊢
  have hgw : w.heap.size ≤ g := by omega
  clear hw0 hg
  refine wp_go ?_
  have hrp := rcount_any _ bs k most F w0 h0 hk hl hm
  cases hr : cntR most (readPk (bs.drop k)) with
  | error e =>
    rw [hr] at hrp
    have he := cnt_err hr (fun _ h => rd_err h)
    have hR : Hid (∀ W E, RtPost w bs k (textR most (bs.drop k)) W E ↔ (W = .returned (.agg (gotL 0 (.slice none 0 0) 0 e).toArray) ∧ Below w.heap.size w E)) := hid fun W E => by
      have h2 : textR most (bs.drop k) = .error e := by unfold textR; rw [hr]
      rw [h2]
      exact Iff.rfl
    have Hrp := hid hrp
    clear hrp hr
    go_wp2_with (fail)
    refine Hrp.out.mono ?_
    rintro e' w1 ⟨rfl, hB1⟩
    have bz1 := bz.below hB1
    have hB1' := hB0.trans (hB1.mono hB0.size)
    clear bz h0 hB0 hB1 Hrp
    go_wp2_with (first | (refine wp_newst 143 7 (.tmp 14) rfl rfl rfl rfl rfl rfl zeroGot (l := gotL 0 (.slice none 0 0) 0 e) rfl rfl sizeGot (one_got 0 0 e _ _ _) (by simp) ?_; intro w3 hb3 hB3 hs3; refine wp_stop ?_))
    have bz3 := bz1.below hB3
    have hBB := hB1'.trans (hB3.mono hB1'.size)
    obtain ⟨g3, hg3⟩ : ∃ g3, g3 = w1.heap.size := ⟨_, rfl⟩
    rw [← hg3] at hb3 ⊢
    clear hg3 bz1 hB1' hB3 hs3
    have c3 := hb3.cellAt 3 _ rfl
    have c0 := hb3.cellAt 0 _ rfl
    have c1 := hb3.cellAt 1 _ rfl
    have c2 := hb3.cellAt 2 _ rfl
    have ne : ((e : Int) != 0) = true := by rw [bne_iff_ne]; omega
    refine wp_go ?_
    go_wp2_with (first | (refine wp_st 143 (.tmp 6) (.tmp 18) rfl rfl rfl (f := 0) rfl (l := gotL 0 (.slice none 0 0) 0 e) rfl bz3 (by simp [gotL]) sizeGot (one_got 0 0 e _ _ _) ?_; intro w9 hb9 hG9; refine wp_stop ?_))
    have hB9 := hBB.grown hG9 hBB.size (fun k hk => by injection hk with hk; omega)
    refine wp_go ?_
    go_wp2
    refine ret_cell rfl rfl hb9.whole Tryd.underlying143 rfl sizeGot rfl ?_
    rw [hR.out]
    exact ⟨rfl, hB9⟩
  | ok p =>
    obtain ⟨n, sz⟩ := p
    rw [hr] at hrp
    obtain ⟨hn, hsz⟩ := cnt_ok hr
    rw [List.length_drop] at hsz
    have Hr := hid hr
    have Hrp := hid hrp
    clear hrp hr
    go_wp2_with (fail)
    refine Hrp.out.mono ?_
    rintro e' w1 ⟨rfl, hB1⟩
    have bz1 := bz.below hB1
    have hB1' := hB0.trans (hB1.mono hB0.size)
    clear bz h0 hB0 hB1 Hrp
    go_wp2_with (first | (refine wp_newst 143 7 (.tmp 14) rfl rfl rfl rfl rfl rfl zeroGot (l := gotL n (.slice none 0 0) sz 0) rfl rfl sizeGot (one_got n sz 0 _ _ _) (by simp) ?_; intro w3 hb3 hB3 hs3; refine wp_stop ?_))
    have bz3 := bz1.below hB3
    have hBB := hB1'.trans (hB3.mono hB1'.size)
    obtain ⟨g3, hg3⟩ : ∃ g3, g3 = w1.heap.size := ⟨_, rfl⟩
    have hg31 : g3 ≤ w1.heap.size ∧ w1.heap.size < w3.heap.size := by omega
    rw [← hg3] at hb3 ⊢
    clear hg3 bz1 hB1' hB3 hs3
    have c3 := hb3.cellAt 3 _ rfl
    have c0 := hb3.cellAt 0 _ rfl
    have c1 := hb3.cellAt 1 _ rfl
    have c2 := hb3.cellAt 2 _ rfl
    have hnw : IntKind.i64.wrap (n : Int) = (n : Int) := IntWalk.i64_in _ (by omega)
    have hf : IntKind.i64.wrap ((k : Int) + (sz : Int)) = ((k + sz : Nat) : Int) := by rw [show (k : Int) + (sz : Int) = ((k + sz : Nat) : Int) from by push_cast; rfl]; exact IntWalk.i64_in _ (by omega)
    have hle : k + sz ≤ bs.length := by omega
    have hsb : IntKind.i64.wrap ((bs.length : Int) - ((k + sz : Nat) : Int)) = ((bs.length - (k + sz) : Nat) : Int) := by rw [show (bs.length : Int) - ((k + sz : Nat) : Int) = ((bs.length - (k + sz) : Nat) : Int) from by omega]; exact IntWalk.i64_in _ (by omega)
    refine wp_go ?_
    by_cases hsh : bs.length - (k + sz) < n
    · have hI : ((bs.length - (k + sz) : Nat) : Int) < (n : Int) := by omega
      have hR : Hid (∀ W E, RtPost w bs k (textR most (bs.drop k)) W E ↔ (W = .returned (.agg (gotL 0 (.slice none 0 0) 0 1).toArray) ∧ Below w.heap.size w E)) := hid fun W E => by
        have h2 : textR most (bs.drop k) = .error 1 := by
          unfold textR
          rw [Hr.out]
          exact if_pos (by rw [List.length_drop]; omega)
        rw [h2]
        exact Iff.rfl
      go_wp2_with (first | (refine wp_st 143 (.tmp 6) (.tmp 32) rfl rfl rfl (f := 0) rfl (l := gotL 0 (.slice none 0 0) 0 1) rfl bz3 (by simp [gotL]) sizeGot (one_got 0 0 1 _ _ _) ?_; intro w9 hb9 hG9; refine wp_stop ?_))
      have hB9 := hBB.grown hG9 hBB.size (fun k hk => by injection hk with hk; omega)
      refine wp_go ?_
      go_wp2
      refine ret_cell rfl rfl hb9.whole Tryd.underlying143 rfl sizeGot rfl ?_
      rw [hR.out]
      exact ⟨rfl, hB9⟩
    · have hI : ¬ (((bs.length - (k + sz) : Nat) : Int) < (n : Int)) := by omega
      have hle2 : k + sz + n ≤ bs.length := by omega
      have hR : Hid (∀ W E, RtPost w bs k (textR most (bs.drop k)) W E ↔ ∃ v, W = .returned (.agg (gotL 0 v (sz + n) 0).toArray) ∧ Rd E (fun b => w.heap.size ≤ b) v (bys (((bs.drop k).drop sz).take n)) ∧ Below w.heap.size w E) := hid fun W E => by
        have h2 : textR most (bs.drop k) = .ok (n, sz) := by
          unfold textR
          rw [Hr.out]
          exact if_neg (by rw [List.length_drop]; omega)
        rw [h2]
        exact Iff.rfl
      have hsn : IntKind.i64.wrap ((sz : Int) + (n : Int)) = ((sz + n : Nat) : Int) := by rw [show (sz : Int) + (n : Int) = ((sz + n : Nat) : Int) from by push_cast; rfl]; exact IntWalk.i64_in _ (by omega)
      have hto : IntKind.i64.wrap (((k + sz : Nat) : Int) + (n : Int)) = ((k + sz + n : Nat) : Int) := by rw [show ((k + sz : Nat) : Int) + (n : Int) = ((k + sz + n : Nat) : Int) from by push_cast; rfl]; exact IntWalk.i64_in _ (by omega)
      obtain ⟨fr, hfr⟩ : ∃ fr, fr = k + sz := ⟨_, rfl⟩
      obtain ⟨to, hto2⟩ : ∃ to, to = fr + n := ⟨_, rfl⟩
      obtain ⟨sn, hsn2⟩ : ∃ sn, sn = sz + n := ⟨_, rfl⟩
      rw [← hfr] at hf hsb hI hto
      rw [← hto2] at hto
      rw [← hsn2] at hsn
      have hX : Hid (((bs.drop k).drop sz).take n = (bs.drop (fr : Int).toNat).take ((to : Int).toNat - (fr : Int).toNat)) := by
        show _ = _
        rw [List.drop_drop, Int.toNat_natCast, Int.toNat_natCast, ← hfr]
        congr 1
        omega
      have Hsn := hid hsn2
      have hft : fr ≤ to ∧ to ≤ bs.length := by omega
      clear hfr hto2 hsn2 hsh hle hle2 Hr
      go_wp2_with (first | (refine wp_newst 143 10 (.tmp 37) rfl rfl rfl rfl rfl rfl zeroGot (l := gotL 0 (.slice none 0 0) sn 0) rfl rfl sizeGot (one_got 0 sn 0 _ _ _) (by simp) ?_; intro w5 hb5 hB5 hs5; refine wp_stop ?_))
      have hgl3 := bz3.lt
      have bz5 := (bz3.below hB5).drew
      have hB5' := (hBB.trans (hB5.mono hBB.size))
      have hrd5 := (h.below hB5').drew
      replace hB5' := hB5'.drew
      obtain ⟨g5, hg5⟩ : ∃ g5, g5 = w3.heap.size := ⟨_, rfl⟩
      have hg53 : g5 ≠ g ∧ w.heap.size ≤ g5 := by omega
      rw [← hg5] at hb5 ⊢
      clear hg5 bz3 hBB hB5 hs5 hb3 c0 c1 c2 c3 hgl3
      have hb5 := hb5.drew
      have c1 := hb5.cellAt 1 _ rfl
      have h00 : w5.drew.ownsRow w5.drew.heap.size 5 1 (.slice none 0 0) 0 [] := World.ownsRow_nil _ _ _ _
      obtain ⟨A', m', c', hcut, hr'⟩ := Rd.cut slB hrd5 (fr : Int) (to : Int) (by omega) (by omega) (by omega)
      have hXl : (((bs.drop (fr : Int).toNat).take ((to : Int).toNat - (fr : Int).toNat))).length = to - fr := by rw [List.length_take, List.length_drop]; omega
      obtain ⟨X, hXe⟩ : ∃ X, X = (bs.drop (fr : Int).toNat).take ((to : Int).toNat - (fr : Int).toNat) := ⟨_, rfl⟩
      rw [← hXe] at hr' hXl hX
      have hXb : X.length ≤ 1000000000000 := by omega
      have hm' : m' = X.length := by
        obtain ⟨_, _, e⟩ := hr'.shape
        injection e
      subst hm'
      have hsr := hr'.src
      clear hXe hXl hr'
      refine wp_go ?_
      go_wp2
      refine wp_region_tail 8 (by kernel_rfl) (by kernel_rfl) ?_
      simp only [List.take_succ_cons, List.take_zero, List.drop_succ_cons, List.drop_zero]
      repeat still_step
      refine wpStill_nil ?_
      refine wp_app (.tmp 39) (.tmp 45) slB rfl rfl rfl h00 rfl hsr (oneCell_bvs X) (by simp only [maxLen]; omega) (by omega) (Nat.le_refl _) ?_
      have hg5l := hb5.lt
      have hgl := bz5.lt
      have hwl := hB5'.size
      intro v6 w6 ho6 hG6 _
      rw [List.nil_append, Nat.zero_add] at ho6
      have hB6 := hB5'.grown hG6 hB5'.size (fun k hk => by cases hk)
      have hb6 := hb5.keep (hG6.block _ hb5.lt (fun e => by cases e))
      have bz6 := bz5.keep (hG6.block _ bz5.lt (fun e => by cases e))
      have hrd6 := Rd.of_own ho6
      obtain ⟨A6, c6, rfl⟩ := own_shape ho6
      have hs1 : (Tryd.prog.info? 35).map (·.size) = some 1 := by kernel_rfl
      refine wp_stop ?_
      refine wp_go ?_
      go_wp2_with (first | (refine wp_st1 35 (.tmp 47) (.tmp 46) rfl rfl rfl (f := 1) rfl (v := .slice A6 X.length c6) rfl hb6 (by simp [gotL]) hs1 rfl rfl ?_; intro w7 hb7 hG7; refine wp_stop ?_))
      have hb7 : Blk w7 g5 143 (gotL 0 (.slice A6 X.length c6) sn 0) := hb7
      have hrd7 := hrd6.keep (F' := fun b => w5.drew.heap.size ≤ b) (fun b hb e => ⟨e, hG7.block b hb (fun e2 => by injection e2 with e2; have e : w5.drew.heap.size ≤ b := e; omega)⟩)
      have bz7 := bz6.keep (hG7.block _ bz6.lt (fun e => by injection e with e; exact hg53.1 e.symm))
      have hB7 := hB6.grown hG7 hB6.size (fun k hk => by injection hk with hk; omega)
      clear hb6 bz6 hG7 hrd6 ho6 hB6 hb5 bz5 hG6 hB5' h00 hcut hsr hrd5
      have c0 := hb7.cellAt 0 _ rfl
      have c1 := hb7.cellAt 1 _ rfl
      have c2 := hb7.cellAt 2 _ rfl
      have c3 := hb7.cellAt 3 _ rfl
      refine wp_go ?_
      go_wp2_with (first | (refine wp_st 143 (.tmp 6) (.tmp 48) rfl rfl rfl (f := 0) rfl (l := gotL 0 (.slice A6 X.length c6) sn 0) rfl bz7 (by simp [gotL]) sizeGot (one_got 0 sn 0 _ _ _) ?_; intro w9 hb9 hG9; refine wp_stop ?_))
      have hB9 := hB7.grown hG9 hB7.size (fun k hk => by injection hk with hk; omega)
      refine wp_go ?_
      go_wp2
      refine ret_cell rfl rfl hb9.whole Tryd.underlying143 rfl sizeGot rfl ?_
      rw [hR.out]
      refine ⟨.slice A6 X.length c6, by rw [← Hsn.out]; rfl, ?_, hB9⟩
      rw [hX.out]
      exact hrd7.keep (fun b hb e => by have e : w5.drew.heap.size ≤ b := e; exact ⟨show w.heap.size ≤ b by omega, hG9.block b hb (fun e2 => by injection e2 with e2; omega)⟩)
end Go.Proofs.YthbbpfnfnnmdnaaDoor
