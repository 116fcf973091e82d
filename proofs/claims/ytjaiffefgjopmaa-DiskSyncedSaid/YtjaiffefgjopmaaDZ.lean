/- DZ: layer 10: the law DiskSynced. -/
import Derived.Test.YtjaiffefgjopmaaDE
namespace Go.V
open Go.RowKit
theorem rdLitG (w : World) (t : TypeId) (fr : Nat × Nat) (arr : Array Value) (bs : List UInt8) (h : arr = (bvs bs).toArray) (n : Nat) (hn : bs.length = n) (hm : n ≤ maxLen) : Rd (w.alloc (.cells arr t fr)) (fun b => w.heap.size ≤ b) (.slice (some ⟨w.heap.size, 0, none⟩) n n) (bys bs) := by
  subst hn h
  unfold bys Rd
  refine ⟨_, _, rfl, Nat.le_refl _, hm, fun h0 => by rw [List.eq_nil_of_length_eq_zero h0]; rfl, fun _ => ⟨_, _, rfl, Nat.le_refl _, RdC.of_bytes fun j u hu => ?_⟩⟩
  have hh : (w.alloc (.cells (bvs bs).toArray t fr)).heap[w.heap.size]? = some (.cells (bvs bs).toArray t fr) := heap_alloc_new w _
  rw [Nat.zero_add]
  simp only [World.cell?, hh]
  simpa using hu
def kK : ByteArray := ⟨#[107, 101, 112, 116]⟩
def aK : Ac := ⟨1, kK, ByteArray.empty, [1, 2, 3], 0, 0, 0, 0⟩
theorem kK_l : kK.toList = [107, 101, 112, 116] := by decide +kernel
theorem sm_K : AcSm aK := ⟨by decide, by decide, by decide, by decide, by unfold maxLen; decide, by unfold maxLen; decide⟩
def d17 : Dk := ⟨131072, [], [], -1, false⟩
theorem d17_is : (⟨roomF 131072, [], [], -1, false⟩ : Dk) = d17 := by rfl
theorem d17_calm : calm d17 := ⟨rfl, rfl⟩
theorem d17_do : doF d17 aK = ({ d17 with pend := [aK] }, 0) := by rfl
def aCr (keep : Nat) (torn cut : Int) : Ac := ⟨5, ByteArray.empty, ByteArray.empty, [], keep, torn, cut, 0⟩
theorem sm_Cr {keep : Nat} {torn cut : Int} (h1 : keep < 18446744073709551616) (h2 : i64r cut) : AcSm (aCr keep torn cut) :=
  ⟨Nat.zero_le _, h1, h2, ⟨by show (-9223372036854775808 : Int) ≤ 0; omega, by show (0 : Int) ≤ 9223372036854775807; omega⟩, by show ByteArray.empty.size ≤ maxLen; unfold maxLen; decide, by show ByteArray.empty.size ≤ maxLen; unfold maxLen; decide⟩
theorem inv_Cr {x : Int} {i : Nat} {D : Dk} (h : InvD x i D) (keep : Nat) (torn cut : Int) : InvD x (i + 1) (doF D (aCr keep torn cut)).1 := inv_sync h (aCr keep torn cut) rfl rfl
def apK (l : List Ac) : Prop := ∀ a ∈ l, kK ≠ a.n ∧ kK ≠ a.t
theorem apK_do {D : Dk} {a : Ac} (h : apK D.pend) (hc : calm D) (hk : a.k < 4) (hn : kK ≠ a.n) (ht : kK ≠ a.t) : apK (doF D a).1.pend := by
  rcases (do_pend D a hc hk).2 with e | e
  · rw [e]; exact h
  · rw [e]
    intro b hb
    rcases List.mem_append.1 hb with hb | hb
    · exact h b hb
    · rw [List.mem_singleton] at hb; subst hb; exact ⟨hn, ht⟩
theorem crash_find {D : Dk} {a : Ac} (hk : a.k = 5) (h : apK D.pend) : findF (nowF (doF D a).1) kK = findF D.syn kK := by
  rw [crash_now D a hk]
  exact find_cr a.keep a.torn a.cut kK D.pend 0 D.syn h
end Go.V
namespace Go.Proofs.Ytjaiffefgjopmaa
open Go.RowKit Go.V
set_option maxRecDepth 100000 in
set_option maxHeartbeats 8000000 in
theorem diskSynced_law (l m : List Ac) (vl vm : Value) (F G : Nat → Prop) (keep : Nat) (torn cut : Int) (w : World) (hl : Rd w F vl (wds acD l)) (hm : Rd w G vm (wds acD m)) (hin : ∀ a ∈ l, AcIn a) (hjn : ∀ a ∈ m, AcIn a) (hkp : keep < 18446744073709551616) (_htn : i64r torn) (hct : i64r cut) :
    Calls Try.prog 4 #[vl, vm, .agg #[.int .u64 (keep : Int), .int .i64 torn, .int .i64 cut]] w fun e w' => e = .returned (.bool true) ∧ Below w.heap.size w w' := by
  obtain ⟨A, c, rfl, hc1, hc2⟩ := wds_shape hl
  obtain ⟨Am, cm, rfl, hd1, hd2⟩ := wds_shape hm
  have hl := hl.weak (F' := fun b => b < w.heap.size) (fun b hb _ => hb)
  have hm := hm.weak (F' := fun b => b < w.heap.size) (fun b hb _ => hb)
  have hpb := Blk.new' w 32 [.int .u64 (keep : Int), .int .i64 torn, .int .i64 cut]
  have hB0 : Below w.heap.size w (w.alloc (.cells #[.int .u64 (keep : Int), .int .i64 torn, .int .i64 cut] 32)) := (Below.refl _ _).alloc (Nat.le_refl _) _
  go_enter Try.func4, Try.ntmps4
  go_wp2_with (fail)
  obtain ⟨wb, hwb⟩ : ∃ x, x = w.alloc (.cells #[.int .u64 (keep : Int), .int .i64 torn, .int .i64 cut] 32) := ⟨_, rfl⟩
  rw [← hwb] at hpb hB0 ⊢
  obtain ⟨gp, hgp⟩ : ∃ g, g = w.heap.size := ⟨_, rfl⟩
  rw [← hgp] at hpb ⊢
  have hgpl : gp < wb.heap.size := hpb.lt
  have hgw : w.heap.size ≤ gp := by omega
  clear hwb hgp
  refine (wakes10_any _).mono ?_
  rintro e w1 ⟨rfl, hB1⟩
  have hpb1 := hpb.below hB1
  have hB1' := hB0.trans (hB1.mono hB0.size)
  go_wp2_with (fail)
  refine (long_any10 l _ _ _ (hl.below hB1')).mono ?_
  rintro e w2 ⟨rfl, rfl⟩
  cases hlo : longF l with
  | true =>
    go_wp2
    go_ret
    exact ⟨rfl, hB1'⟩
  | false =>
  obtain ⟨hl80, hla⟩ := longF_out hlo
  clear hlo
  go_wp2_with (fail)
  refine (long_any10 m _ _ _ (hm.below hB1')).mono ?_
  rintro e w2 ⟨rfl, rfl⟩
  cases hlo : longF m with
  | true =>
    go_wp2
    go_ret
    exact ⟨rfl, hB1'⟩
  | false =>
  obtain ⟨hm80, hma⟩ := longF_out hlo
  clear hlo
  have hpl := hpb1.lt
  go_wp2_with (fail)
  refine (new10_any 131072 _).mono ?_
  rintro e w3 ⟨v0, M0, F0, rfl, hX0, hB3, hMF⟩
  rw [d17_is] at hX0
  obtain ⟨x0, rfl⟩ := hX0.ptr
  have hM0 : ∀ b, M0 b → gp < b := fun b h => by have := hMF b (.inl h); omega
  have hbd0 := hX0.bd
  have hB3' := hB1'.trans (hB3.mono hB1'.size)
  have hpb3 := hpb1.below hB3
  have hrK := rdLitG w3 5 (0, 0) #[.int .u8 1, .int .u8 2, .int .u8 3] [1, 2, 3] rfl 3 rfl (by simp [maxLen])
  have hal : Below w3.heap.size w3 (w3.alloc (.cells #[.int .u8 1, .int .u8 2, .int .u8 3] 5 (0, 0))) := (Below.refl _ _).alloc (Nat.le_refl _) _
  have hX4 := hX0.keep (fun b hb _ => hal.block b hb) hal.size
  have hpb4 := hpb3.below hal
  have hB4 := hB3'.trans (hal.mono hB3'.size)
  have hI0 : InvD 131072 0 d17 := by have := InvD.new 131072; rwa [d17_is] at this
  have hI1 := hI0.step (a := aK) (by decide) ⟨by decide, by decide⟩
  have hc1 := do_calm d17 aK d17_calm (by decide)
  have hDo := fun W v h1 h2 h3 => write10_any (.pointer (some ⟨x0, 0, none⟩)) M0 F0 (fun b => w3.heap.size ≤ b) d17 aK v W h1 (hI0.sm (by omega)) sm_K rfl h2 h3
  obtain ⟨R, hR⟩ : ∃ R, R = doF d17 aK := ⟨_, rfl⟩
  have hR2 : R.2 = 0 := by rw [hR, d17_do]
  rw [← hR] at hI1 hc1 hDo
  have Hla := hid hla
  have Hin := hid hin
  have Hma := hid hma
  have Hjn := hid hjn
  clear hR hla hin hma hjn hX0 hB3 hMF hB3' hpb3 hpb1 hB1 hB1' hI0 hB0 hal
  go_wp2_with (fail)
  refine (hDo _ _ hX4 hrK (fun b hb hm => by have h' : w3.heap.size ≤ b := hb; have := hbd0 b (.inl hm); omega)).mono ?_
  rintro e w5 ⟨rfl, M5, F5, hX5, hC5, hM5, -⟩
  have hB5 := below_chM hB4 hC5 (fun b hb => by have := hM0 b hb; omega) (Nat.le_refl _)
  have hz4 := hB4.size
  have hM5b : ∀ b, M5 b → gp < b := fun b h => (hM5 b h).elim (hM0 b) (fun h => by have := hpb4.lt; omega)
  have hpb5 := hpb4.keep (hC5.block _ hpb4.lt (fun h => by have := hM0 _ h; omega))
  obtain ⟨D0, hD0⟩ : ∃ d, d = R.1 := ⟨_, rfl⟩
  rw [← hD0] at hI1 hc1 hX5
  clear hD0 hDo hX4 hrK hB4 hC5 hM5 hM0 hbd0 hpb4
  go_wp2
  go_loopw [7, 30] (fun dv iv wr => ∃ (i : Nat) (M F' : Nat → Prop) (D : Dk), i ≤ l.length ∧ iv = .int .i64 i ∧ dv = .pointer (some ⟨x0, 0, none⟩) ∧ IX wr (.pointer (some ⟨x0, 0, none⟩)) M F' D ∧ (∀ b, M b → gp < b) ∧ InvD 131072 (1 + i) D ∧ calm D ∧ Blk wr gp 32 [.int .u64 (keep : Int), .int .i64 torn, .int .i64 cut] ∧ Below w.heap.size w wr) (fun _ i _ => l.length - (intOf i).toNat)
  case atStart => exact ⟨0, M5, F5, D0, Nat.zero_le _, rfl, rfl, hX5, hM5b, hI1, hc1, hpb5, hB5⟩
  case round =>
    obtain ⟨i, M, F', D, hi, rfl, rfl, hX, hM, hI, hcl, hpb, hB⟩ := hrel
    by_cases hlt : i < l.length
    · obtain ⟨a, ha⟩ : ∃ a, l[i]? = some a := ⟨_, List.getElem?_eq_getElem hlt⟩
      have hIlt : (i : Int) < (l.length : Int) := by omega
      have hin1 : IntKind.i64.wrap ((i : Int) + 1) = (i : Int) + 1 := IntWalk.i64_in _ (by omega)
      have hlr := hl.below hB
      obtain ⟨g, off, cs, rfl, hg, hr, he⟩ := wd_el hlr ha
      obtain ⟨u, rfl, hu⟩ := ac_open he
      obtain ⟨Au, cu, rfl⟩ := hu.shape
      have hAi := Hin.out a (List.mem_of_getElem? ha)
      have hAl := (Hla.out a (List.mem_of_getElem? ha)).1
      have hAs := hAi.sm hAl
      have hAm := hAi.m
      clear ha he hAi
      go_wp2_with (first | refine wp_ixa 22 (.tmp 28) (.tmp 30) rfl rfl rfl rfl Try.underlying22 hlt sizeAc ?_ | refine wp_ld 34 (.tmp 32) rfl rfl rfl hr Try.underlying34 rfl sizeAc ?_ | refine wp_newst 34 9 (.tmp 33) rfl rfl rfl rfl rfl rfl zeroAc (l := a.l (.slice Au a.b.length cu)) rfl rfl sizeAc (one_ac a _ _ _) (by simp [Act.put]) ?_; intro w4 hx4 hB4 hs4; refine wp_stop ?_)
      have hX4 := hX.keep (fun b hb _ => hB4.block b hb) hB4.size
      have hpb4 := hpb.below hB4
      have hu4 := hu.below hB4
      have hBx := hB.trans (hB4.mono hB.size)
      obtain ⟨gx, hgx⟩ : ∃ g, g = wr.heap.size := ⟨_, rfl⟩
      rw [← hgx] at hx4 ⊢
      clear hgx hX hu hr hlr hB4 hs4 hB hpb
      refine wp_go ?_
      go_wp2_with (refine wp_ld 34 (.tmp 9) rfl rfl rfl hx4.whole Try.underlying34 rfl sizeAc ?_)
      refine (right_any10 a _ _).mono ?_
      rintro e w5 ⟨rfl, hB5⟩
      have hX5 := hX4.keep (fun b hb _ => hB5.block b hb) hB5.size
      have hpb5 := hpb4.below hB5
      have hu5 := hu4.below hB5
      have hx5 := hx4.below hB5
      have hBy := hBx.trans (hB5.mono hBx.size)
      have ck := hx5.cellAt 0 _ rfl
      have cn := hx5.cellAt 1 _ rfl
      have ct := hx5.cellAt 2 _ rfl
      clear hX4 hu4 hx4 hB5 hBx hpb4
      by_cases hk : 0 ≤ a.k ∧ a.k ≤ 7
      · rw [decide_eq_true hk]
        by_cases h6 : a.k < 6
        · have hb6 : decide (a.k < 6) = true := decide_eq_true h6
          by_cases hn : a.n = kK
          · have hbn : (a.n.toList == [107, 101, 112, 116]) = true := by rw [← kK_l]; exact (Go.Lib.bytes_beq_iff _ _).2 hn
            clear hk h6 hn
            go_wp2
            go_roundw
            case rel => exact ⟨i + 1, M, F', D, by omega, by go_num, rfl, hX5, hM, hI.mono (by omega), hcl, hpb5, hBy⟩
            case measure => simp [intOf]; omega
          · have hbn : (a.n.toList == [107, 101, 112, 116]) = false := by rw [← kK_l]; exact (Go.Lib.bytes_beq_false_iff _ _).2 hn
            by_cases ht : a.t = kK
            · have hbt : (a.t.toList == [107, 101, 112, 116]) = true := by rw [← kK_l]; exact (Go.Lib.bytes_beq_iff _ _).2 ht
              clear hk h6 hn ht
              go_wp2
              go_roundw
              case rel => exact ⟨i + 1, M, F', D, by omega, by go_num, rfl, hX5, hM, hI.mono (by omega), hcl, hpb5, hBy⟩
              case measure => simp [intOf]; omega
            · have hbt : (a.t.toList == [107, 101, 112, 116]) = false := by rw [← kK_l]; exact (Go.Lib.bytes_beq_false_iff _ _).2 ht
              have hI' := hI.step hAl hAm
              have hsm := hI.sm (by omega)
              have hcl' := do_calm D a hcl (by omega)
              have hDo := dol_any _ M F' _ D a _ w5 hX5 hsm hAs hu5 (fun b hb => ⟨by have h' : b < w.heap.size := hb; have := hBy.size; omega, fun hm => by have h' : b < w.heap.size := hb; have := hM b hm; omega⟩) hk
              unfold DoL at hDo
              obtain ⟨R, hRR⟩ : ∃ R, R = doF D a := ⟨_, rfl⟩
              rw [← hRR] at hI' hDo hcl'
              have H6 : Hid (a.k ≠ 6) := by show _ ≠ _; omega
              clear hRR hk h6 hn ht
              go_wp2_with (refine wp_ld 34 (.tmp 9) rfl rfl rfl hx5.whole Try.underlying34 rfl sizeAc ?_)
              refine hDo.mono ?_
              rintro e w6 ⟨v6, rfl, ⟨M6, F6, hX6, hC6, hM6, hF6⟩, hv6⟩
              obtain rfl := hv6 H6.out
              have hBz := below_chM hBy hC6 (fun b hb => by have := hM b hb; omega) (Nat.le_refl _)
              have hyz := hBy.size
              have hpz := hpb5.lt
              have hM6b : ∀ b, M6 b → gp < b := fun b h => (hM6 b h).elim (hM b) (fun h => by omega)
              have hpb6 := hpb5.keep (hC6.block _ hpb5.lt (fun h => by have := hM _ h; omega))
              clear hX5 hu5 hx5 hDo hC6 hM6 hF6 hBy ck cn ct hM hpb5
              go_wp2
              go_roundw
              case rel => exact ⟨i + 1, M6, F6, R.1, by omega, by go_num, rfl, hX6, hM6b, hI'.mono (by omega), hcl', hpb6, hBz⟩
              case measure => simp [intOf]; omega
        · have hb6 : decide (a.k < 6) = false := decide_eq_false h6
          clear h6 hk
          go_wp2
          go_roundw
          case rel => exact ⟨i + 1, M, F', D, by omega, by go_num, rfl, hX5, hM, hI.mono (by omega), hcl, hpb5, hBy⟩
          case measure => simp [intOf]; omega
      · rw [decide_eq_false hk]
        go_wp2
        go_roundw
        case rel => exact ⟨i + 1, M, F', D, by omega, by go_num, rfl, hX5, hM, hI.mono (by omega), hcl, hpb5, hBy⟩
        case measure => simp [intOf]; omega
    · have hi' : i = l.length := by omega
      subst hi'
      have hI0 : ¬ (l.length : Int) < (l.length : Int) := by omega
      have hsm := hI.sm (by omega)
      have hI1 := inv_sync hI aWs rfl rfl
      have hsy := sync_calm D aWs rfl hcl
      have hc1 := do_calm D aWs hcl (by decide)
      go_wp2_with (fail)
      refine (sync10_any _ M F' D aWs _ hX hsm rfl).mono ?_
      rintro e w4 ⟨rfl, M1, F1, hX1, hC1, hM1, -⟩
      have hB4 := below_chM hB hC1 (fun b hb => by have := hM b hb; omega) (Nat.le_refl _)
      have hpz := hpb.lt
      have hM1b : ∀ b, M1 b → gp < b := fun b h => (hM1 b h).elim (hM b) (fun h => by omega)
      have hpb4 := hpb.keep (hC1.block _ hpb.lt (fun h => by have := hM _ h; omega))
      obtain ⟨D1, hD1⟩ : ∃ D1, D1 = (doF D aWs).1 := ⟨_, rfl⟩
      rw [← hD1] at hI1 hsy hc1 hX1
      have hS0 : nowF D1 = D1.syn := by rw [hsy]; rfl
      have hP0 : apK D1.pend := by rw [hsy]; intro a ha; cases ha
      clear hD1 hsy hX hC1 hM hI hcl hB hM1 hpb
      have hsm1 := hI1.sm (by omega)
      have hrd := read10_any _ M1 F1 D1 kK _ hX1 hsm1 (by unfold maxLen; decide)
      obtain ⟨EC, hEC⟩ : ∃ EC : Int, EC = (if (findF (nowF D1) kK).isSome = true then 0 else 13) := ⟨_, rfl⟩
      obtain ⟨X, hXX⟩ : ∃ X, X = (findF (nowF D1) kK).getD [] := ⟨_, rfl⟩
      rw [← hEC, ← hXX] at hrd
      have HEC := hid hEC
      have HXX := hid hXX
      clear hEC hXX
      go_wp2_with (fail)
      refine hrd.mono ?_
      rintro e w5 ⟨vb, rfl, hvb, hB5⟩
      have hvb := hvb.weak (F' := fun b => w4.heap.size ≤ b ∧ b < w5.heap.size) (fun b hb h => ⟨h, hb⟩)
      obtain ⟨A1, c1, rfl⟩ := hvb.shape
      have hMs1 : ∀ b, M1 b → b < w4.heap.size ∨ w5.heap.size ≤ b := fun b h => .inl (hX1.bd b (.inl h))
      have hX15 := hX1.keep (fun b hb _ => hB5.block b hb) hB5.size
      have hpb5 := hpb4.below hB5
      have hB5' := hB4.trans (hB5.mono hB4.size)
      have hq5 := Nat.le_refl w5.heap.size
      obtain ⟨s0, hs0⟩ : ∃ s, s = w4.heap.size := ⟨_, rfl⟩
      obtain ⟨s1, hs1⟩ : ∃ s, s = w5.heap.size := ⟨_, rfl⟩
      rw [← hs0, ← hs1] at hvb hMs1
      have hq5 : s1 ≤ w5.heap.size := by omega
      clear hs0 hs1 hX1 hpb4 hB4 hB5 hrd
      go_wp2
      go_loopw [7, 67] (fun dv jv wr => ∃ (j : Nat) (M F' : Nat → Prop) (D : Dk), j ≤ m.length ∧ jv = .int .i64 j ∧ dv = .pointer (some ⟨x0, 0, none⟩) ∧ IX wr (.pointer (some ⟨x0, 0, none⟩)) M F' D ∧ (∀ b, M b → gp < b) ∧ (∀ b, M b → b < s0 ∨ s1 ≤ b) ∧ s1 ≤ wr.heap.size ∧ InvD 131072 (1 + l.length + 1 + j) D ∧ calm D ∧ D.syn = D1.syn ∧ apK D.pend ∧ Blk wr gp 32 [.int .u64 (keep : Int), .int .i64 torn, .int .i64 cut] ∧ Rd wr (fun b => s0 ≤ b ∧ b < s1) (.slice A1 X.length c1) (bys X) ∧ Below w.heap.size w wr) (fun _ j _ => m.length - (intOf j).toNat)
      case atStart => exact ⟨0, M1, F1, D1, Nat.zero_le _, rfl, rfl, hX15, hM1b, hMs1, hq5, hI1, hc1, rfl, hP0, hpb5, hvb, hB5'⟩
      case round =>
        clear hX15 hM1b hMs1 hq5 hc1 hpb5 hvb hB5'
        obtain ⟨j, M, F', D, hj, rfl, rfl, hX, hM, hMs, hq, hI, hcl, hsyn, hap, hpb, hW, hB⟩ := hrel
        by_cases hlt : j < m.length
        · obtain ⟨a, ha⟩ : ∃ a, m[j]? = some a := ⟨_, List.getElem?_eq_getElem hlt⟩
          have hIlt : (j : Int) < (m.length : Int) := by omega
          have hin1 : IntKind.i64.wrap ((j : Int) + 1) = (j : Int) + 1 := IntWalk.i64_in _ (by omega)
          have hlr := hm.below hB
          obtain ⟨g, off, cs, rfl, hg, hr, he⟩ := wd_el hlr ha
          obtain ⟨u, rfl, hu⟩ := ac_open he
          obtain ⟨Au, cu, rfl⟩ := hu.shape
          have hAi := Hjn.out a (List.mem_of_getElem? ha)
          have hAl := (Hma.out a (List.mem_of_getElem? ha)).1
          have hAs := hAi.sm hAl
          have hAm := hAi.m
          clear ha he hAi
          go_wp2_with (first | refine wp_ixa 22 (.tmp 65) (.tmp 67) rfl rfl rfl rfl Try.underlying22 hlt sizeAc ?_ | refine wp_ld 34 (.tmp 69) rfl rfl rfl hr Try.underlying34 rfl sizeAc ?_ | refine wp_newst 34 13 (.tmp 70) rfl rfl rfl rfl rfl rfl zeroAc (l := a.l (.slice Au a.b.length cu)) rfl rfl sizeAc (one_ac a _ _ _) (by simp [Act.put]) ?_; intro w4 hx4 hB4 hs4; refine wp_stop ?_)
          have hX4 := hX.keep (fun b hb _ => hB4.block b hb) hB4.size
          have hpb4 := hpb.below hB4
          have hW4 := hW.keep (F' := fun b => s0 ≤ b ∧ b < s1) (fun b hb hF => ⟨hF, hB4.block b hb⟩)
          have hq4 : s1 ≤ w4.heap.size := Nat.le_trans hq hB4.size
          have hu4 := hu.below hB4
          have hBx := hB.trans (hB4.mono hB.size)
          obtain ⟨gx, hgx⟩ : ∃ g, g = wr.heap.size := ⟨_, rfl⟩
          rw [← hgx] at hx4 ⊢
          clear hgx hX hu hr hlr hB4 hs4 hB hpb hW
          refine wp_go ?_
          go_wp2_with (refine wp_ld 34 (.tmp 13) rfl rfl rfl hx4.whole Try.underlying34 rfl sizeAc ?_)
          refine (right_any10 a _ _).mono ?_
          rintro e w5 ⟨rfl, hB5⟩
          have hX5 := hX4.keep (fun b hb _ => hB5.block b hb) hB5.size
          have hpb5 := hpb4.below hB5
          have hW5 := hW4.keep (F' := fun b => s0 ≤ b ∧ b < s1) (fun b hb hF => ⟨hF, hB5.block b hb⟩)
          have hq5 : s1 ≤ w5.heap.size := Nat.le_trans hq4 hB5.size
          have hu5 := hu4.below hB5
          have hx5 := hx4.below hB5
          have hBy := hBx.trans (hB5.mono hBx.size)
          have ck := hx5.cellAt 0 _ rfl
          have cn := hx5.cellAt 1 _ rfl
          have ct := hx5.cellAt 2 _ rfl
          clear hX4 hu4 hx4 hB5 hBx hpb4 hW4
          by_cases hk : 0 ≤ a.k ∧ a.k ≤ 7
          · rw [decide_eq_true hk]
            by_cases h6 : a.k < 4
            · have hb6 : decide (a.k < 4) = true := decide_eq_true h6
              by_cases hn : a.n = kK
              · have hbn : (a.n.toList == [107, 101, 112, 116]) = true := by rw [← kK_l]; exact (Go.Lib.bytes_beq_iff _ _).2 hn
                clear hk h6 hn
                go_wp2
                go_roundw
                case rel => exact ⟨j + 1, M, F', D, by omega, by go_num, rfl, hX5, hM, hMs, hq5, hI.mono (by omega), hcl, hsyn, hap, hpb5, hW5, hBy⟩
                case measure => simp [intOf]; omega
              · have hbn : (a.n.toList == [107, 101, 112, 116]) = false := by rw [← kK_l]; exact (Go.Lib.bytes_beq_false_iff _ _).2 hn
                by_cases ht : a.t = kK
                · have hbt : (a.t.toList == [107, 101, 112, 116]) = true := by rw [← kK_l]; exact (Go.Lib.bytes_beq_iff _ _).2 ht
                  clear hk h6 hn ht
                  go_wp2
                  go_roundw
                  case rel => exact ⟨j + 1, M, F', D, by omega, by go_num, rfl, hX5, hM, hMs, hq5, hI.mono (by omega), hcl, hsyn, hap, hpb5, hW5, hBy⟩
                  case measure => simp [intOf]; omega
                · have hbt : (a.t.toList == [107, 101, 112, 116]) = false := by rw [← kK_l]; exact (Go.Lib.bytes_beq_false_iff _ _).2 ht
                  have hI' := hI.step hAl hAm
                  have hsm := hI.sm (by omega)
                  have hcl' := do_calm D a hcl (by omega)
                  have hap' := apK_do hap hcl h6 (fun e => hn e.symm) (fun e => ht e.symm)
                  have hsy := (do_pend D a hcl h6).1
                  have hDo := dol_any _ M F' _ D a _ w5 hX5 hsm hAs hu5 (fun b hb => ⟨by have h' : b < w.heap.size := hb; have := hBy.size; omega, fun hm => by have h' : b < w.heap.size := hb; have := hM b hm; omega⟩) hk
                  unfold DoL at hDo
                  obtain ⟨R, hRR⟩ : ∃ R, R = doF D a := ⟨_, rfl⟩
                  rw [← hRR] at hI' hDo hcl' hap' hsy
                  have H6 : Hid (a.k ≠ 6) := by show _ ≠ _; omega
                  have Hsy := hid hsy
                  have Hap := hid hap'
                  clear hsy hap'
                  clear hRR hk h6 hn ht
                  go_wp2_with (refine wp_ld 34 (.tmp 13) rfl rfl rfl hx5.whole Try.underlying34 rfl sizeAc ?_)
                  refine hDo.mono ?_
                  rintro e w6 ⟨v6, rfl, ⟨M6, F6, hX6, hC6, hM6, hF6⟩, hv6⟩
                  obtain rfl := hv6 H6.out
                  have hBz := below_chM hBy hC6 (fun b hb => by have := hM b hb; omega) (Nat.le_refl _)
                  have hyz := hBy.size
                  have hpz := hpb5.lt
                  have hM6b : ∀ b, M6 b → gp < b := fun b h => (hM6 b h).elim (hM b) (fun h => by omega)
                  have hpb6 := hpb5.keep (hC6.block _ hpb5.lt (fun h => by have := hM _ h; omega))
                  have hW6 := hW5.keep (F' := fun b => s0 ≤ b ∧ b < s1) (fun b hb hF => ⟨hF, hC6.block b hb (fun h => by have := hMs b h; have := hF.1; have := hF.2; omega)⟩)
                  have hq6 : s1 ≤ w6.heap.size := Nat.le_trans hq5 hC6.size
                  have hMs6 : ∀ b, M6 b → b < s0 ∨ s1 ≤ b := fun b h => (hM6 b h).elim (hMs b) (fun h => .inr (by omega))
                  clear hX5 hu5 hx5 hDo hC6 hM6 hF6 hBy ck cn ct hM hpb5 hW5 hMs
                  go_wp2
                  go_roundw
                  case rel => exact ⟨j + 1, M6, F6, R.1, by omega, by go_num, rfl, hX6, hM6b, hMs6, hq6, hI'.mono (by omega), hcl', Hsy.out.trans hsyn, Hap.out, hpb6, hW6, hBz⟩
                  case measure => simp [intOf]; omega
            · have hb6 : decide (a.k < 4) = false := decide_eq_false h6
              clear h6 hk
              go_wp2
              go_roundw
              case rel => exact ⟨j + 1, M, F', D, by omega, by go_num, rfl, hX5, hM, hMs, hq5, hI.mono (by omega), hcl, hsyn, hap, hpb5, hW5, hBy⟩
              case measure => simp [intOf]; omega
          · rw [decide_eq_false hk]
            go_wp2
            go_roundw
            case rel => exact ⟨j + 1, M, F', D, by omega, by go_num, rfl, hX5, hM, hMs, hq5, hI.mono (by omega), hcl, hsyn, hap, hpb5, hW5, hBy⟩
            case measure => simp [intOf]; omega
        · have hj' : j = m.length := by omega
          subst hj'
          have hJ0 : ¬ (m.length : Int) < (m.length : Int) := by omega
          have hsm := hI.sm (by omega)
          have hfd := crash_find (D := D) (a := aCr keep torn cut) rfl hap
          rw [hsyn, ← hS0] at hfd
          have hIc := inv_Cr hI keep torn cut
          have hcr := fun W h1 => crash10_any (.pointer (some ⟨x0, 0, none⟩)) M F' D (aCr keep torn cut) W h1 hsm (sm_Cr hkp hct) rfl
          obtain ⟨Dc, hDc⟩ : ∃ d, d = (doF D (aCr keep torn cut)).1 := ⟨_, rfl⟩
          rw [← hDc] at hfd hIc hcr
          unfold aCr at hcr
          dsimp only at hcr
          have hpz := hpb.lt
          clear hDc hsyn hap hcl
          go_wp2_with (refine wp_ld 32 (.tmp 5) rfl rfl rfl hpb.whole Try.underlying32 rfl sizePlan10 ?_)
          refine (hcr _ hX).mono ?_
          rintro e w7 ⟨rfl, M7, F7, hX7, hC7, hM7, -⟩
          have hB7 := below_chM hB hC7 (fun b hb => by have := hM b hb; omega) (Nat.le_refl _)
          have hW7 := hW.keep (F' := fun b => s0 ≤ b ∧ b < s1) (fun b hb hF => ⟨hF, hC7.block b hb (fun h => by have := hMs b h; have := hF.1; have := hF.2; omega)⟩)
          have hrd := read10_any _ M7 F7 Dc kK _ hX7 (hIc.sm (by omega)) (by unfold maxLen; decide)
          rw [hfd, ← HEC.out, ← HXX.out] at hrd
          clear hX hM hMs hC7 hM7 hB hW hcr hpb hfd
          go_wp2_with (fail)
          refine hrd.mono ?_
          rintro e w8 ⟨vb, rfl, hvb, hB8⟩
          obtain ⟨A2, c2, rfl⟩ := hvb.shape
          have hW8 := hW7.below hB8
          have hB8' := hB7.trans (hB8.mono hB7.size)
          have hec : (EC == EC) = true := by simp
          clear hrd hW7 hB7 hB8
          go_wp2_with (fail)
          refine (same_b _ _ X X _ _ _ hvb hW8).mono ?_
          rintro e w9 ⟨rfl, hB9⟩
          rw [decide_eq_true rfl]
          go_wp2
          go_ret
          exact ⟨rfl, hB8'.trans (hB9.mono hB8'.size)⟩
end Go.Proofs.Ytjaiffefgjopmaa
